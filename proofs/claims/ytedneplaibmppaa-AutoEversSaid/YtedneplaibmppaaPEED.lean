/- Contracts of the functions that PEEE comes to. -/
import Derived.Test.YtedneplaibmppaaPEEC
set_option maxRecDepth 100000
set_option maxHeartbeats 2000000
set_option linter.unusedVariables false
set_option linter.unusedSectionVars false
set_option linter.unusedSimpArgs false
namespace Go.Proofs.Ytedneplaibmppaa
open Go.Rx Go.RowKit
def bareN (n:Nat):Hp:=⟨n,fun _=>none⟩
theorem bareN_grows {n:Nat} {h:Hp} (hn:n≤h.next):Grows (bareN n) h:=⟨hn,fun r o e=>by
 unfold Hp.at bareN at e
 dsimp only at e
 split at e <;> cases e⟩
def fl4:List En→List Value
 | []=>[]
 | e :: l=>int e.p.1 :: int e.p.2 :: int e.bf :: int e.dg :: fl4 l
theorem fl4_app:∀ (l r:List En),fl4 (l ++ r) = fl4 l ++ fl4 r
 | [],r=>rfl
 | e :: l,r=>by show _ :: _ :: _ :: _ :: fl4 (l ++ r) = _; rw [fl4_app l r]; rfl
theorem fl4_len:∀ l:List En,(fl4 l).length = l.length * 4
 | []=>rfl
 | e :: l=>by show (fl4 l).length + 1 + 1 + 1 + 1 = (l.length + 1) * 4; rw [fl4_len l]; omega
theorem fl4_drop:∀ (l:List En) (k:Nat) (x:En),l[k]? = some x→(fl4 l).drop (k * 4) = int x.p.1 :: int x.p.2 :: int x.bf :: int x.dg :: fl4 (l.drop (k + 1))
 | e :: l,0,x,h=>by cases h; rfl
 | e :: l,k + 1,x,h=>by
  have:=fl4_drop l k x (by simpa using h)
  rw [show (k + 1) * 4 = k * 4 + 1 + 1 + 1 + 1 by omega]
  simpa [fl4] using this
def SeenM (h:Hp) (M:Nat) (l:List (Int×Int)):Prop:=∃ n,MapAt h M encP (fun k=>if k ∈ l then some (.bool true) else none) n
theorem SeenM.ext {h h':Hp} {M:Nat} {l:List (Int×Int)} (g:Grows h h') (k:SeenM h M l):SeenM h' M l:=let ⟨n,k⟩:=k; ⟨n,k.ext g⟩
structure DM (h H:Hp) (M:Nat) (bxa bxb:List Value) (st:Value) (T:List En):Prop where
 gr:Grows h H
 xa:H.at h.next = some (.row 25 true bxa)
 xb:H.at (h.next + 1) = some (.row 25 true bxb)
 ml:M < H.next
 l:BuiltC (bareN (M + 1)) H 133 4 st T.length (fl4 T)
theorem DM.ext {h H H':Hp} {M:Nat} {bxa bxb:List Value} {st:Value} {T:List En} (g:Grows H H') (k:DM h H M bxa bxb st T):DM h H' M bxa bxb st T :=
 ⟨k.gr.trans g,g.at_ _ _ k.xa,g.at_ _ _ k.xb,Nat.lt_of_lt_of_le k.ml g.next,k.l.ext g⟩
theorem DM.cell {h H:Hp} {M:Nat} {bxa bxb:List Value} {st:Value} {T:List En} (k:DM h H M bxa bxb st T) {i:Nat} {x:En} (hi:T[i]? = some x):∃ r,st = slc r 0 T.length T.length∧cellsAt H r (offAt 0 i 4) 2 = some [int x.p.1,int x.p.2]∧cellAt H r (offAt 0 i 4 + 2) = some (int x.bf)∧cellAt H r (offAt 0 i 4 + 3) = some (int x.dg):=by
 have hl:=(List.getElem?_eq_some_iff.1 hi).1
 have hd:=fl4_drop T i x hi
 obtain ⟨hlen,⟨_,e1⟩ | ⟨r,er,_,y,hr⟩⟩:=k.l
 ·omega
 ·have get:∀ j v,((fl4 T).drop (i * 4))[j]? = some v→(fl4 T)[i * 4 + j]? = some v:=fun j v e=>by rw [List.getElem?_drop] at e; exact e
  refine ⟨r,er,?_,?_,?_⟩
  ·rw [offAt_eq,Nat.zero_add,cellsAt_row hr (by rw [fl4_len]; omega),hd]
   rfl
  ·rw [offAt_eq,Nat.zero_add]
   exact cellAt_row hr (get 2 _ (by rw [hd]; rfl))
  ·rw [offAt_eq,Nat.zero_add]
   exact cellAt_row hr (get 3 _ (by rw [hd]; rfl))
theorem Df.way {a b:Mac} {T:List En} {S:List Nat} {i d:Nat} (k:Df a b T S i d):∀ (c:Nat) (e:En),T[c]? = some e→∃ w,Mac.Wd a.base w∧runS (nextP a b) (0,0) w = e.p:=fun c=>by
 induction c using Nat.strongRecOn with
 | ind c ih =>
  intro e he
  by_cases h0:c = 0
  ·subst h0
   obtain ⟨e',h1,h2,_⟩:=k.first
   rw [he] at h1
   cases h1
   exact ⟨[],by simp [Mac.Wd],h2.symm⟩
  ·obtain ⟨k',g,e',s',h1,h2,h3,h4,h5,h6,_,_⟩:=k.par c e (by omega) he
   obtain ⟨w,hw,ew⟩:=ih k' h3 e' h5
   refine ⟨w ++ [g],fun x hx=>?_,?_⟩
   ·rcases List.mem_append.1 hx with hx | hx
    ·exact hw x hx
    ·rw [List.mem_singleton.1 hx]; exact h4
   ·rw [runS_app,ew,h6]; rfl
theorem Df.differ {a b:Mac} {T:List En} {S:List Nat} {i d c:Nat} {e:En} (k:Df a b T S i d) (he:T[c]? = some e) (h:¬ sameP a b e.p):¬ Mac.Alike a b 0 0:=fun q=>by
 obtain ⟨w,hw,ew⟩:=k.way c e he
 refine h ?_
 rw [← ew]
 have e3:((0:Int),(0:Int)) = (((0:Nat):Int),((0:Nat):Int)):=rfl
 rw [e3,runP]
 unfold sameP
 rw [Int.toNat_natCast,Int.toNat_natCast]
 exact q w hw
theorem wany (k:IntKind) (n:Int):IsWrap k n (wrapI k n):=rfl
theorem pow26 {b k:Nat} (hb:b≤5) (hk:k≤26) (hb1:1≤b):b ^ k≤1490116119384765625:=by
 have h1:b ^ k≤5 ^ k:=Nat.pow_le_pow_left hb k
 have h2:5 ^ k≤5 ^ 26:=Nat.pow_le_pow_right (by omega) hk
 have h3:5 ^ 26 = 1490116119384765625:=by decide
 omega
def DiffR (a b:Mac) (r:Value):Prop:=∃ n d,r = .tuple ⟨[int n,.bool d]⟩∧(d = false→n = 0∧Mac.Alike a b 0 0)∧(d = true→∃ w,Mac.Wd a.base w∧w.length≤a.out.length + b.out.length∧a.o (a.run 0 w)≠b.o (b.run 0 w)∧(a.out.length + b.out.length≤26→n = val a.base w))
section
variable [Unknowns]
theorem DM.app {h H:Hp} {M:Nat} {bxa bxb:List Value} {st:Value} {T:List En} {e:En} {b:Bool} {K:Value→Hp→Prop} (k:DM h H M bxa bxb st T) (hM:h.next + 2≤M) (hl:T.length≤30000000)
  (q:∀ v' H',(∃ a n,v' = .slice a n n)→DM h H' M bxa bxb v' (T ++ [e])→Kx (ad st) H H'→(∀ r,ad v' = some r→H.next≤r)→K v' H'):AppP E (H.lay (.row 133 b [int e.p.1,int e.p.2,int e.bf,int e.dg])) 133 4 32 st (slc H.next 0 1 1) K:=by
 have g1:Grows H (H.lay (.row 133 b [int e.p.1,int e.p.2,int e.bf,int e.dg])):=Grows.lay _ _
 have k1:=k.ext g1
 have hMlt:M + 1≤(H.lay (.row 133 b [int e.p.1,int e.p.2,int e.bf,int e.dg])).next:=k1.ml
 have hel:ElemsC (H.lay (.row 133 b [int e.p.1,int e.p.2,int e.bf,int e.dg])) 4 (slc H.next 0 1 1) 1 [int e.p.1,int e.p.2,int e.bf,int e.dg]:=by
  refine ⟨rfl,?_,rfl,rfl⟩
  show cellsAt (H.lay (.row 133 b [int e.p.1,int e.p.2,int e.bf,int e.dg])) H.next 0 (1 * 4) = _
  exact all_cells (Hp.at_lay_self _ _) rfl
 refine AppP.cellsF k1.l (bareN_grows hMlt) hel (by omega) (by omega) (by omega) ?_
 intro v' H' hb' hg' hkeep ⟨r',er,hr'⟩
 have hv:=hb'.ad_lt r' (by rw [er]; rfl)
 have x:=Kx.builtC k1.l hkeep
 have keep:∀ r o,r≤M→(H.lay (.row 133 b [int e.p.1,int e.p.2,int e.bf,int e.dg])).at r = some o→H'.at r = some o:=fun r o hr ho=>hkeep r o ho fun n c ev=>by
  have:=(k1.l.ad_lt r (by rw [ev]; rfl)).1
  have:M + 1≤r:=this
  omega
 refine q _ _ ⟨_,_,er⟩ ⟨⟨by have:=k1.gr.next; omega,fun r o ho=>keep r o (by have:=Hp.lt_of_at ho; omega) (k1.gr.at_ _ _ ho)⟩,keep _ _ (by omega) k1.xa,keep _ _ (by omega) k1.xb,by omega,by rw [List.length_append,fl4_app]; exact hb'⟩ ((Kx.grows g1).trans x) (fun r e2=>by
  rw [er] at e2
  cases e2
  rw [Hp.next_lay] at hr'
  omega)
end
attribute [local irreducible] E idxN cellAt cellsAt storeAt callable helems hmoved lookIn findKey keyOk hentries Hp.at Hp.set Hp.lay arBits hupdated setAt CallP YieldP BoolOf IsWrap Rnd LoopP AppP CutP Int.tmod Int.tdiv Int.fdiv
section
variable [Unknowns]
attribute [local irreducible] sameAt
theorem diff_spec (va vb:Value) (a b:Mac) (h:Hp) (hva:MV h va a.i) (hvb:MV h vb b.i) (ha:a.Ok) (hb:b.Ok) (hbb:a.base = b.base) (hb5:a.base≤5) (hsz:a.out.length * b.out.length≤30000000):CallP E 65 [va,vb] h (fun r h'=>DiffR a b r∧Grows h h'):=by
 obtain ⟨bxa,rfl,hxa⟩:=hva.box
 obtain ⟨bxb,rfl,hxb⟩:=hvb.box
 obtain ⟨aoa,ana,coa,cna,hcxa⟩:=hxa.cx
 obtain ⟨aob,anb,cob,cnb,hcxb⟩:=hxb.cx
 obtain ⟨i4,t4,z4⟩:=ty4
 obtain ⟨iM,tM,dM⟩:=ty131
 have hila:=ha.ilen
 have hilb:=hb.ilen
 have few:∀ {T S i d},Df a b T S i d→T.length≤30000000:=fun {T S i d} k=>by
  have:=nodup_sub k.nodup (r:=sq a.out.length b.out.length) (fun p hp=>by
   obtain ⟨e,he,rfl⟩:=List.mem_map.1 hp
   exact k.mem e he)
  rw [List.length_map,sq_len] at this
  omega
 refine enter65 (by simp) ?_
 conv=>whnf
 refine SeqP.cut (α:=Hp) (fun _=>[(3,ptr (h.next + 1) 0),(2,ptr h.next 0)]) (fun x H=>x = H∧Grows h H∧H.at h.next = some (.row 25 true bxa)∧H.at (h.next + 1) = some (.row 25 true bxb)∧H.next = h.next + 2) ?_ ?_
 ·conv=>whnf
  have n1:(h.lay (.row 25 true bxa)).next = h.next + 1:=Hp.next_lay _ _
  exact ⟨_,⟨congrArg (fun k=>ptr k 0) n1,rfl,trivial⟩,⟨rfl,(Grows.lay _ _).then_lay _,Hp.at_lay_old _ (Hp.at_lay_self _ _),at_nx2 n1 (Hp.at_lay_self _ _),by rw [Hp.next_lay,n1]⟩,rfl⟩
 rintro H φ1 _ ⟨rfl,gH,aXa,aXb,nH⟩
 conv=>whnf
 refine SeqP.cut (α:=Hp) (fun _=>[(6,ptr H.next 0),(3,ptr (h.next + 1) 0),(2,ptr h.next 0)]) (fun x H2=>x = H2∧Grows H x∧x.at H.next = some (.row 106 true [int 0,int 0])) ?_ ?_
 ·conv=>whnf
  refine ⟨rfl,_,storeAt_all (vs:=[int 0,int 0]) rfl rfl rfl,?_⟩
  conv=>whnf
  exact ⟨_,⟨rfl,rfl,rfl,trivial⟩,⟨rfl,Grows.lay _ _,Hp.at_lay_self _ _⟩,rfl⟩
 rintro H2 φ2 _ ⟨rfl,g2,aP⟩
 conv=>whnf
 refine SeqP.cut (α:=Nat×Hp) (fun s=>[(7,mapAt s.1),(6,ptr H.next 0),(3,ptr (h.next + 1) 0),(2,ptr h.next 0)]) (fun s H3=>s.2 = H3∧Grows H2 s.2∧SeenM s.2 s.1 [(0,0)]∧H2.next≤s.1) ?_ ?_
 ·conv=>whnf
  refine ⟨_,all_cells (Hp.at_lay_old _ aP) rfl,?_⟩
  conv=>whnf
  refine raw_insert tM dM key106 (k:=((0:Int),(0:Int))) (v:=.bool true) (n:=0) rfl rfl rfl (MapAt.new _) ?_
  intro H3 hM3 y3
  have gl3:Grows H2 (H2.lay (.map [] 0)):=Grows.lay _ _
  have gk3:Grows H2 H3:=⟨by rw [y3.next]; exact gl3.next,fun r o e=>y3.at_ r o (by have:=Hp.lt_of_at e; omega) (gl3.at_ r o e)⟩
  conv=>whnf
  refine ⟨(H2.next,H3),⟨rfl,rfl,rfl,rfl,trivial⟩,⟨rfl,gk3,⟨_,hM3.congr fun k=>?_⟩,Nat.le_refl _⟩,rfl⟩
  by_cases e:k = (0,0)
  ·rw [if_pos e,if_pos (by rw [e]; simp)]
  ·rw [if_neg e,if_neg (by simpa using e)]
 rintro ⟨M,H3⟩ φ3 _ ⟨rfl,g3,hM3,hMge⟩
 dsimp only at g3 hM3 hMge ⊢
 have hM2:h.next + 2≤M:=by have:=g2.next; omega
 have g23:=(gH.trans g2).trans g3
 have hMlt:M + 1≤H3.next:=by
  obtain ⟨_,_,_,h1,_⟩:=hM3
  exact Hp.lt_of_at h1
 conv=>whnf
 refine SeqP.cut (α:=Value×Hp) (fun s=>[(8,s.1),(7,mapAt M),(3,ptr (h.next + 1) 0),(2,ptr h.next 0)]) (fun s H4=>s.2 = H4∧DM h s.2 M bxa bxb s.1 [⟨(0,0),-1,0⟩]∧SeenM s.2 M [(0,0)]) ?_ ?_
 ·conv=>whnf
  refine ⟨_,all_cells (g3.at_ _ _ aP) rfl,?_⟩
  conv=>whnf
  exact ⟨(slc H3.next 0 1 1,_),⟨rfl,rfl,rfl,rfl,trivial⟩,⟨rfl,⟨g23.then_lay _,Hp.at_lay_old _ (g3.at_ _ _ (g2.at_ _ _ aXa)),Hp.at_lay_old _ (g3.at_ _ _ (g2.at_ _ _ aXb)),by dsimp only; rw [Hp.next_lay]; omega,⟨rfl,.inr ⟨H3.next,rfl,hMlt,true,Hp.at_lay_self _ _⟩⟩⟩,hM3.ext (Grows.lay _ _)⟩,rfl⟩
 rintro ⟨st4,H4⟩ φ4 _ ⟨rfl,hd4,hs4⟩
 dsimp only at hd4 hs4 ⊢
 conv=>whnf
 refine SeqP.cut (α:=Unit) (fun _=>[(9,int (-1)),(8,st4),(7,mapAt M),(3,ptr (h.next + 1) 0),(2,ptr h.next 0)]) (fun _ H5=>H4 = H5) ?_ ?_
 ·conv=>whnf
  exact ⟨(),⟨rfl,rfl,rfl,rfl,rfl,trivial⟩,rfl,rfl⟩
 rintro _ φ5 _ rfl
 conv=>whnf
 refine SeqP.go ?_
 conv=>whnf
 refine SeqP.cut (α:=Int×Value×List En×Hp) (fun s=>[(9,int s.1),(8,s.2.1),(3,ptr (h.next + 1) 0),(2,ptr h.next 0)]) (fun s H5=>s.2.2.2 = H5∧DM h s.2.2.2 M bxa bxb s.2.1 s.2.2.1∧((s.1 = -1∧Mac.Alike a b 0 0)∨∃ (i:Nat) (S:List Nat) (x:En),s.1 = i∧Df a b s.2.2.1 S i 0∧s.2.2.1[i]? = some x∧¬ sameP a b x.p)) ?_ ?_
 ·conv=>whnf
  refine SeqP.go ?_
  conv=>whnf
  refine loop_inv (α:=Nat×List Nat×Value×List En×Hp) (fun s=>[(10,int s.1),(9,int (-1)),(8,s.2.2.1),(7,mapAt M),(3,ptr (h.next + 1) 0),(2,ptr h.next 0)]) (fun s=>s.2.2.2.2) (fun s=>Df a b s.2.2.2.1 s.2.1 s.1 0∧DM h s.2.2.2.2 M bxa bxb s.2.2.1 s.2.2.2.1∧s.1≤s.2.2.2.1.length∧SeenM s.2.2.2.2 M (s.2.2.2.1.map (·.p))) (fun s=>30000001 - s.1) (0,[0],st4,[⟨(0,0),-1,0⟩],H4) ⟨Df.start ha hb,hd4,Nat.zero_le _,hs4⟩ ⟨rfl,rfl,rfl,rfl,rfl,rfl,trivial⟩ (Hp.Le.refl _) ?_
  rintro ⟨i,S,st,T,H5⟩ φ6 ⟨hdf,hdm,hil,hsm⟩
  dsimp only at hdf hdm hil hsm ⊢
  have hfew:=few hdf
  have hsk:=hdm.l.slice
  obtain ⟨as5,rfl,-⟩:=hsk
  conv=>whnf
  repeat (refine SeqP.go ?_; conv=>whnf)
  refine cmpB (fun q1=>?_) (fun q1=>?_)
  rotate_left
  ·have hle:T.length≤i:=by omega
   conv=>whnf
   exact ⟨(-1,_,T,H5),⟨rfl,rfl,rfl,rfl,trivial⟩,⟨rfl,hdm,.inl ⟨rfl,hdf.alike hle⟩⟩,rfl⟩
  have hiT:i < T.length:=by omega
  have hexx:∃ x,T[i]? = some x:=⟨_,List.getElem?_eq_getElem hiT⟩
  obtain ⟨x,hx⟩:=hexx
  have hsl:i < S.length:=by have:=hdf.len; omega
  have hexs:∃ s,S[i]? = some s:=⟨_,List.getElem?_eq_getElem hsl⟩
  obtain ⟨s0,hs0⟩:=hexs
  have hxm:=sq_mem.1 (hdf.mem x (List.mem_of_getElem? hx))
  have hexu:∃ u:Nat,x.p.1 = u:=⟨x.p.1.toNat,by omega⟩
  obtain ⟨u,eu⟩:=hexu
  have hexv:∃ v:Nat,x.p.2 = v:=⟨x.p.2.toNat,by omega⟩
  obtain ⟨v,ev⟩:=hexv
  have hdc:=hdm.cell hx
  obtain ⟨rs,ers,hcc,-,-⟩:=hdc
  cases ers
  rw [eu,ev] at hcc hxm
  conv=>whnf
  refine SeqP.cut (α:=List Nat×Value×List En×Hp) (fun s=>[(10,int i),(9,int (-1)),(8,s.2.1),(7,mapAt M),(3,ptr (h.next + 1) 0),(2,ptr h.next 0)]) (fun s H6=>s.2.2.2 = H6∧Df a b s.2.2.1 s.1 (i + 1) 0∧DM h s.2.2.2 M bxa bxb s.2.1 s.2.2.1∧i + 1≤s.2.2.1.length∧SeenM s.2.2.2 M (s.2.2.1.map (·.p))) ?_ ?_
  rotate_left
  ·rintro ⟨S6,st6,T6,H6⟩ φ7 _ ⟨rfl,hdf6,hdm6,hil6,hsm6⟩
   dsimp only at hdf6 hdm6 hil6 hsm6 ⊢
   conv=>whnf
   refine ⟨((i + 1:Nat):Int),wie (by omega) (by omega),?_⟩
   conv=>whnf
   exact Rnd.mk (i + 1,S6,st6,T6,H6) ⟨hdf6,hdm6,hil6,hsm6⟩ (by show 30000001 - (i + 1) < 30000001 - i; omega) ⟨rfl,rfl,rfl,rfl,rfl,rfl,trivial⟩ (Hp.Le.refl _) rfl
  conv=>whnf
  refine SeqP.cut (α:=Nat×Hp) (fun s=>[(11,ptr s.1 0),(10,int i),(9,int (-1)),(8,slc rs 0 T.length T.length),(7,mapAt M),(3,ptr (h.next + 1) 0),(2,ptr h.next 0)]) (fun s H6=>s.2 = H6∧Grows H5 s.2∧s.2.at s.1 = some (.row 106 true [int u,int v])∧H5.next≤s.1) ?_ ?_
  ·conv=>whnf
   refine ⟨rfl,⟨by omega,by omega⟩,?_⟩
   conv=>whnf
   refine ⟨_,hcc,?_⟩
   conv=>whnf
   refine ⟨rfl,_,storeAt_all (vs:=[int u,int v]) rfl rfl rfl,?_⟩
   conv=>whnf
   exact ⟨(H5.next,_),⟨rfl,rfl,rfl,rfl,rfl,rfl,rfl,trivial⟩,⟨rfl,Grows.lay _ _,Hp.at_lay_self _ _,Nat.le_refl _⟩,rfl⟩
  rintro ⟨K,H6⟩ φ7 _ ⟨rfl,g6,aK,hK⟩
  dsimp only at g6 aK hK ⊢
  have hdm6:=hdm.ext g6
  have hadK:ad (slc rs 0 T.length T.length)≠some K:=fun e=>by
   have:=(hdm.l.ad_lt rs rfl).2
   cases e
   omega
  have kxa:=hcxa H6 h.next 25 hdm6.gr hdm6.xa
  have kxb:=hcxb H6 (h.next + 1) 25 hdm6.gr hdm6.xb
  have ca1:cellAt H6 h.next 1 = some (.slice aoa a.out.length coa):=kxa.c1
  have cb1:cellAt H6 (h.next + 1) 1 = some (.slice aob b.out.length cob):=kxb.c1
  have k0:cellAt H6 K 0 = some (int u):=cellAt_row aK rfl
  have k1:cellAt H6 K 1 = some (int v):=cellAt_row aK rfl
  have hoa:=kxa.outM (s:=u) (by omega)
  obtain ⟨r1,o1,sp1,rfl,hsp1,hco1⟩:=hoa
  have hob:=kxb.outM (s:=v) (by omega)
  obtain ⟨r2,o2,sp2,rfl,hsp2,hco2⟩:=hob
  have esame:sameP a b x.p↔a.o u = b.o v:=by unfold sameP; rw [eu,ev,Int.toNat_natCast,Int.toNat_natCast]
  conv=>whnf
  refine SeqP.cut (α:=Unit) (fun _=>[(11,ptr K 0),(10,int i),(9,int (-1)),(8,slc rs 0 T.length T.length),(7,mapAt M),(3,ptr (h.next + 1) 0),(2,ptr h.next 0)]) (fun _ H7=>H6 = H7∧sameP a b x.p) ?_ ?_
  ·conv=>whnf
   refine SeqP.go ?_
   conv=>whnf
   refine ⟨_,ca1,?_⟩
   conv=>whnf
   refine ⟨_,k0,?_⟩
   conv=>whnf
   refine ⟨hsp1,⟨by omega,by omega⟩,?_⟩
   conv=>whnf
   refine ⟨_,hco1,?_⟩
   conv=>whnf
   refine ⟨_,cb1,?_⟩
   conv=>whnf
   refine ⟨_,k1,?_⟩
   conv=>whnf
   refine ⟨hsp2,⟨by omega,by omega⟩,?_⟩
   conv=>whnf
   refine ⟨_,hco2,?_⟩
   conv=>whnf
   refine cmpB (fun q2=>?_) (fun q2=>?_)
   ·conv=>whnf
    refine SeqP.go ?_
    conv=>whnf
    exact ⟨(i,_,T,H6),⟨rfl,rfl,rfl,rfl,trivial⟩,⟨rfl,hdm6,.inr ⟨i,S,x,rfl,hdf,hx,fun q=>q2 (esame.1 q)⟩⟩,rfl⟩
   ·conv=>whnf
    exact ⟨(),⟨rfl,rfl,rfl,rfl,rfl,rfl,rfl,trivial⟩,⟨rfl,esame.2 (Classical.byContradiction q2)⟩,rfl⟩
  rintro _ φ8 _ ⟨rfl,hsame⟩
  have ca0:cellAt H6 h.next 0 = some (int (a.base:Int)):=kxa.c0
  conv=>whnf
  refine SeqP.go ?_
  conv=>whnf
  refine ⟨_,ca0,?_⟩
  conv=>whnf
  refine loop_inv (α:=Nat×List Nat×Value×List En×Hp) (fun s=>[(50,int s.1),(49,int a.base),(11,ptr K 0),(10,int i),(9,int (-1)),(8,s.2.2.1),(7,mapAt M),(3,ptr (h.next + 1) 0),(2,ptr h.next 0)]) (fun s=>s.2.2.2.2) (fun s=>s.1≤a.base∧Df a b s.2.2.2.1 s.2.1 i s.1∧DM h s.2.2.2.2 M bxa bxb s.2.2.1 s.2.2.2.1∧s.2.2.2.1[i]? = some x∧s.2.1[i]? = some s0∧s.2.2.2.2.at K = some (.row 106 true [int u,int v])∧ad s.2.2.1≠some K∧SeenM s.2.2.2.2 M (s.2.2.2.1.map (·.p))) (fun s=>a.base - s.1) (0,S,slc rs 0 T.length T.length,T,H6) ⟨Nat.zero_le _,hdf,hdm6,hx,hs0,aK,hadK,hsm.ext g6⟩ ⟨rfl,rfl,rfl,rfl,rfl,rfl,rfl,rfl,rfl,trivial⟩ (Hp.Le.refl _) ?_
  rintro ⟨d,S7,st7,T7,H7⟩ φ9 ⟨hd,hdf7,hdm7,hx7,hs7,aK7,had7,hsm7⟩
  dsimp only at hd hdf7 hdm7 hx7 hs7 aK7 had7 hsm7 ⊢
  have hfew7:=few hdf7
  have hsk7:=hdm7.l.slice
  obtain ⟨as7,rfl,-⟩:=hsk7
  have hiT7:=(List.getElem?_eq_some_iff.1 hx7).1
  conv=>whnf
  repeat (refine SeqP.go ?_; conv=>whnf)
  refine cmpB (fun q2=>?_) (fun q2=>?_)
  rotate_left
  ·have:d = a.base:=by omega
   subst this
   conv=>whnf
   exact ⟨(S7,_,T7,H7),⟨rfl,rfl,rfl,rfl,rfl,rfl,trivial⟩,⟨rfl,hdf7.turn hx7 hsame,hdm7,by show i + 1≤T7.length; omega,hsm7⟩,rfl⟩
  have hdb:d < a.base:=by omega
  have kxa7:=hcxa H7 h.next 25 hdm7.gr hdm7.xa
  have kxb7:=hcxb H7 (h.next + 1) 25 hdm7.gr hdm7.xb
  have ca2:=kxa7.c2
  have cb2:=kxb7.c2
  have k70:cellAt H7 K 0 = some (int u):=cellAt_row aK7 rfl
  have k71:cellAt H7 K 1 = some (int v):=cellAt_row aK7 rfl
  have hna:=kxa7.nextAt ha (s:=u) (d:=d) (by omega) hdb
  obtain ⟨p1,p2,p3,p4,p5,p6,p7,rfl,hp3,hpc1,hp6,hpc2⟩:=hna
  have hnb:=kxb7.nextAt hb (s:=v) (d:=d) (by omega) (by omega)
  obtain ⟨w1,w2,w3,w4,w5,w6,w7,rfl,hw3,hwc1,hw6,hwc2⟩:=hnb
  rw [← hbb] at hwc1
  have enx:nextP a b x.p d = (((a.nx u d:Nat):Int),((b.nx v d:Nat):Int)):=by unfold nextP; rw [eu,ev,Int.toNat_natCast,Int.toNat_natCast]
  have hstep:∃ t,nextP a b x.p d = t:=⟨_,rfl⟩
  obtain ⟨t,et⟩:=hstep
  have hadd:=hdf7.add ha hb hbb hx7 hs7 hdb
  have hskip:=hdf7.skip hx7 hs7
  rw [et] at hadd hskip enx
  have eenc:Value.agg ⟨[int (a.nx u d:Nat),int (b.nx v d:Nat)]⟩ = encP t:=by rw [enx]; rfl
  conv=>whnf
  refine SeqP.go ?_
  conv=>whnf
  refine SeqP.cut (α:=List Nat×Value×List En×Hp) (fun s=>[(50,int d),(49,int a.base),(11,ptr K 0),(10,int i),(9,int (-1)),(8,s.2.1),(7,mapAt M),(3,ptr (h.next + 1) 0),(2,ptr h.next 0)]) (fun s H8=>s.2.2.2 = H8∧Df a b s.2.2.1 s.1 i (d + 1)∧DM h s.2.2.2 M bxa bxb s.2.1 s.2.2.1∧s.2.2.1[i]? = some x∧s.1[i]? = some s0∧s.2.2.2.at K = some (.row 106 true [int u,int v])∧ad s.2.1≠some K∧SeenM s.2.2.2 M (s.2.2.1.map (·.p))) ?_ ?_
  rotate_left
  ·rintro ⟨S8,st8,T8,H8⟩ φ10 _ ⟨rfl,hdf8,hdm8,hx8,hs8,aK8,had8,hsm8⟩
   dsimp only at hdf8 hdm8 hx8 hs8 aK8 had8 hsm8 ⊢
   conv=>whnf
   refine ⟨((d + 1:Nat):Int),wie (by omega) (by omega),?_⟩
   conv=>whnf
   exact Rnd.mk (d + 1,S8,st8,T8,H8) ⟨by show d + 1≤a.base; omega,hdf8,hdm8,hx8,hs8,aK8,had8,hsm8⟩ (by show a.base - (d + 1) < a.base - d; omega) ⟨rfl,rfl,rfl,rfl,rfl,rfl,rfl,rfl,rfl,trivial⟩ (Hp.Le.refl _) rfl
  have gl1:Grows H7 (H7.lay (.row 106 true [int 0,int 0])):=Grows.lay _ _
  have gl2:Grows H7 (H7.lay (.row 106 true [int (a.nx u d:Nat),int (b.nx v d:Nat)])):=Grows.lay _ _
  have f1:=gl1.cell ca2
  have f2:=gl1.cell cb2
  have f3:=gl1.cell k70
  have f4:=gl1.cell k71
  have f5:=gl1.cell hpc1
  have f6:=gl1.cell hpc2
  have f7:=gl1.cell hwc1
  have f8:=gl1.cell hwc2
  have s1:=gl2.cell ca2
  have s2:=gl2.cell cb2
  have s3:=gl2.cell k70
  have s4:=gl2.cell k71
  have s5:=gl2.cell hpc1
  have s6:=gl2.cell hpc2
  have s7:=gl2.cell hwc1
  have s8:=gl2.cell hwc2
  conv=>whnf
  refine SeqP.go ?_
  conv=>whnf
  refine SeqP.cut (α:=Nat×Hp) (fun s=>[(13,ptr s.1 0),(12,int d),(50,int d),(49,int a.base),(11,ptr K 0),(10,int i),(9,int (-1)),(8,.slice as7 T7.length T7.length),(7,mapAt M),(3,ptr (h.next + 1) 0),(2,ptr h.next 0)]) (fun s H8=>s.2 = H8∧Grows H7 s.2∧s.2.at s.1 = some (.row 106 true [int (a.nx u d:Nat),int (b.nx v d:Nat)])∧H7.next≤s.1) ?_ ?_
  ·conv=>whnf
   refine ⟨_,ca2,?_⟩
   conv=>whnf
   refine ⟨_,k70,?_⟩
   conv=>whnf
   refine ⟨hp3,⟨by omega,by omega⟩,?_⟩
   conv=>whnf
   refine ⟨_,hpc1,?_⟩
   conv=>whnf
   refine ⟨hp6,⟨by omega,by omega⟩,?_⟩
   conv=>whnf
   refine ⟨_,hpc2,?_⟩
   conv=>whnf
   refine ⟨_,cb2,?_⟩
   conv=>whnf
   refine ⟨_,k71,?_⟩
   conv=>whnf
   refine ⟨hw3,⟨by omega,by omega⟩,?_⟩
   conv=>whnf
   refine ⟨_,hwc1,?_⟩
   conv=>whnf
   refine ⟨hw6,⟨by omega,by omega⟩,?_⟩
   conv=>whnf
   refine ⟨_,hwc2,?_⟩
   conv=>whnf
   refine ⟨rfl,_,storeAt_all (vs:=[int (a.nx u d:Nat),int (b.nx v d:Nat)]) rfl rfl rfl,?_⟩
   conv=>whnf
   refine ⟨?_,?_⟩
   ·repeat' (first | exact True.intro | (refine And.intro ?_ ?_ <;> (conv=>whnf)))
    all_goals first
     | exact sameAt_val (h2:=_) rfl (sameV_int _)
     | exact sameAt_val (h2:=_) rfl (sameV_ptr _ _)
     | exact sameAt_val (h2:=_) rfl (sameV_slice _ _ _)
     | exact sameAt_val (h2:=_) rfl (sameV_agg2 _ _)
     | exact sameAt_val (h2:=_) (congrArg (hval _) ca2) (sameV_int _)
     | exact sameAt_val (h2:=_) (congrArg (hval _) ca2) (sameV_slice _ _ _)
     | exact sameAt_val (h2:=_) (congrArg (hval _) cb2) (sameV_int _)
     | exact sameAt_val (h2:=_) (congrArg (hval _) cb2) (sameV_slice _ _ _)
     | exact sameAt_val (h2:=_) (congrArg (hval _) k70) (sameV_int _)
     | exact sameAt_val (h2:=_) (congrArg (hval _) k70) (sameV_slice _ _ _)
     | exact sameAt_val (h2:=_) (congrArg (hval _) k71) (sameV_int _)
     | exact sameAt_val (h2:=_) (congrArg (hval _) k71) (sameV_slice _ _ _)
     | exact sameAt_val (h2:=_) (congrArg (hval _) hpc1) (sameV_int _)
     | exact sameAt_val (h2:=_) (congrArg (hval _) hpc1) (sameV_slice _ _ _)
     | exact sameAt_val (h2:=_) (congrArg (hval _) hpc2) (sameV_int _)
     | exact sameAt_val (h2:=_) (congrArg (hval _) hpc2) (sameV_slice _ _ _)
     | exact sameAt_val (h2:=_) (congrArg (hval _) hwc1) (sameV_int _)
     | exact sameAt_val (h2:=_) (congrArg (hval _) hwc1) (sameV_slice _ _ _)
     | exact sameAt_val (h2:=_) (congrArg (hval _) hwc2) (sameV_int _)
     | exact sameAt_val (h2:=_) (congrArg (hval _) hwc2) (sameV_slice _ _ _)
     | exact sameAt_val (h2:=_) (congrArg (hval _) f1) (sameV_int _)
     | exact sameAt_val (h2:=_) (congrArg (hval _) f1) (sameV_slice _ _ _)
     | exact sameAt_val (h2:=_) (congrArg (hval _) f2) (sameV_int _)
     | exact sameAt_val (h2:=_) (congrArg (hval _) f2) (sameV_slice _ _ _)
     | exact sameAt_val (h2:=_) (congrArg (hval _) f3) (sameV_int _)
     | exact sameAt_val (h2:=_) (congrArg (hval _) f3) (sameV_slice _ _ _)
     | exact sameAt_val (h2:=_) (congrArg (hval _) f4) (sameV_int _)
     | exact sameAt_val (h2:=_) (congrArg (hval _) f4) (sameV_slice _ _ _)
     | exact sameAt_val (h2:=_) (congrArg (hval _) f5) (sameV_int _)
     | exact sameAt_val (h2:=_) (congrArg (hval _) f5) (sameV_slice _ _ _)
     | exact sameAt_val (h2:=_) (congrArg (hval _) f6) (sameV_int _)
     | exact sameAt_val (h2:=_) (congrArg (hval _) f6) (sameV_slice _ _ _)
     | exact sameAt_val (h2:=_) (congrArg (hval _) f7) (sameV_int _)
     | exact sameAt_val (h2:=_) (congrArg (hval _) f7) (sameV_slice _ _ _)
     | exact sameAt_val (h2:=_) (congrArg (hval _) f8) (sameV_int _)
     | exact sameAt_val (h2:=_) (congrArg (hval _) f8) (sameV_slice _ _ _)
     | exact sameAt_val (h2:=_) (congrArg (hval _) s1) (sameV_int _)
     | exact sameAt_val (h2:=_) (congrArg (hval _) s1) (sameV_slice _ _ _)
     | exact sameAt_val (h2:=_) (congrArg (hval _) s2) (sameV_int _)
     | exact sameAt_val (h2:=_) (congrArg (hval _) s2) (sameV_slice _ _ _)
     | exact sameAt_val (h2:=_) (congrArg (hval _) s3) (sameV_int _)
     | exact sameAt_val (h2:=_) (congrArg (hval _) s3) (sameV_slice _ _ _)
     | exact sameAt_val (h2:=_) (congrArg (hval _) s4) (sameV_int _)
     | exact sameAt_val (h2:=_) (congrArg (hval _) s4) (sameV_slice _ _ _)
     | exact sameAt_val (h2:=_) (congrArg (hval _) s5) (sameV_int _)
     | exact sameAt_val (h2:=_) (congrArg (hval _) s5) (sameV_slice _ _ _)
     | exact sameAt_val (h2:=_) (congrArg (hval _) s6) (sameV_int _)
     | exact sameAt_val (h2:=_) (congrArg (hval _) s6) (sameV_slice _ _ _)
     | exact sameAt_val (h2:=_) (congrArg (hval _) s7) (sameV_int _)
     | exact sameAt_val (h2:=_) (congrArg (hval _) s7) (sameV_slice _ _ _)
     | exact sameAt_val (h2:=_) (congrArg (hval _) s8) (sameV_int _)
     | exact sameAt_val (h2:=_) (congrArg (hval _) s8) (sameV_slice _ _ _)
     | exact sameAt_val (h2:=_) (show hval _ (idxSV 1 (.slice (some ⟨_,_,_⟩) _ _) (int _)) = _ from idxS_val' hp3 ⟨by omega,by omega⟩) (sameV_ptr _ _)
     | exact sameAt_val (h2:=_) (show hval _ (idxSV 1 (.slice (some ⟨_,_,_⟩) _ _) (int _)) = _ from idxS_val' hp6 ⟨by omega,by omega⟩) (sameV_ptr _ _)
     | exact sameAt_val (h2:=_) (show hval _ (idxSV 1 (.slice (some ⟨_,_,_⟩) _ _) (int _)) = _ from idxS_val' hw3 ⟨by omega,by omega⟩) (sameV_ptr _ _)
     | exact sameAt_val (h2:=_) (show hval _ (idxSV 1 (.slice (some ⟨_,_,_⟩) _ _) (int _)) = _ from idxS_val' hw6 ⟨by omega,by omega⟩) (sameV_ptr _ _)
     | exact ⟨_,rfl,Hp.at_lay_self _ _,rfl⟩
   exact ⟨(H7.next,_),⟨rfl,rfl,rfl,rfl,rfl,rfl,rfl,rfl,rfl,rfl,rfl,trivial⟩,⟨rfl,Grows.lay _ _,Hp.at_lay_self _ _,Nat.le_refl _⟩,rfl⟩
  rintro ⟨K2,H8⟩ φ10 _ ⟨rfl,g8,aK2,hK2⟩
  dsimp only at g8 aK2 hK2 ⊢
  have hdm8:=hdm7.ext g8
  have aK8:=g8.at_ _ _ aK7
  have hm8:=hsm7.ext g8
  have hsm8:=hm8
  obtain ⟨n8,hm8⟩:=hm8
  have hltM:=hdm7.ml
  by_cases hin:t ∈ T7.map (·.p)
  ·conv=>whnf
   refine SeqP.go ?_
   conv=>whnf
   refine ⟨_,all_cells aK2 rfl,?_⟩
   conv=>whnf
   refine raw_look1_some tM dM t4 z4 key106 (k:=t) rfl (by exact eenc) hm8 (if_pos hin) ?_
   conv=>whnf
   exact ⟨(S7,_,T7,H8),⟨rfl,rfl,rfl,rfl,rfl,rfl,rfl,rfl,rfl,trivial⟩,⟨rfl,hskip hin,hdm8,hx7,hs7,aK8,had7,hsm8⟩,rfl⟩
  ·have hadd:=hadd hin
   have hfew9:=few hadd
   have hKM:K≠M:=by have:=hdm.ml; omega
   conv=>whnf
   refine SeqP.go ?_
   conv=>whnf
   refine ⟨_,all_cells aK2 rfl,?_⟩
   conv=>whnf
   refine raw_look1_none tM dM t4 z4 key106 (k:=t) rfl (by exact eenc) hm8 (if_neg hin) ?_
   conv=>whnf
   refine SeqP.go ?_
   conv=>whnf
   refine ⟨_,all_cells aK2 rfl,?_⟩
   conv=>whnf
   refine raw_update tM dM key106 (k:=t) (v:=.bool true) rfl (by exact eenc) rfl hm8 ?_
   intro H9 hm9 y9
   have hseen:SeenM H9 M ((T7 ++ [(⟨t,(i:Int),(d:Int)⟩:En)]).map (·.p)):=⟨_,hm9.congr fun k=>by
    rw [List.map_append]
    by_cases e:k = t
    ·rw [if_pos e,if_pos (by rw [e]; simp)]
    ·rw [if_neg e]
     by_cases hk:k ∈ T7.map (·.p)
     ·rw [if_pos hk,if_pos (List.mem_append_left _ hk)]
     ·rw [if_neg hk,if_neg fun q=>by
       rcases List.mem_append.1 q with q | q
       ·exact hk q
       ·simp at q; exact e q]⟩
   have hMh:h.next≤M:=by omega
   have hl9:BuiltC (bareN (M + 1)) H9 133 4 (.slice as7 T7.length T7.length) T7.length (fl4 T7):=builtC_stay hdm8.l fun r o hr ho=>y9.at_ _ _ (by
    have:=(hdm8.l.ad_lt r hr).1
    have:M + 1≤r:=this
    omega) ho
   have aK29:=y9.at_ _ _ (by omega) aK2
   have aK9:=y9.at_ _ _ hKM aK8
   have hdm9:DM h H9 M bxa bxb (.slice as7 T7.length T7.length) T7:=⟨y9.grows hdm8.gr hMh,y9.at_ _ _ (by omega) hdm8.xa,y9.at_ _ _ (by omega) hdm8.xb,by rw [y9.next]; exact hdm8.ml,hl9⟩
   rw [enx] at hseen hadd
   conv=>whnf
   refine ⟨_,all_cells aK29 rfl,?_⟩
   conv=>whnf
   refine hdm9.app (e:=⟨(((a.nx u d:Nat):Int),((b.nx v d:Nat):Int)),(i:Int),(d:Int)⟩) hM2 hfew7 ?_
   intro st10 H10 hst10 hdm10 kx10 had10
   obtain ⟨a10,n10,rfl⟩:=hst10
   have aK10:=kx10.at_ aK9 had7
   obtain ⟨nn,hseen⟩:=hseen
   have hseen10:SeenM H10 M ((T7 ++ [(⟨(((a.nx u d:Nat):Int),((b.nx v d:Nat):Int)),(i:Int),(d:Int)⟩:En)]).map (·.p)):=⟨nn,hseen.of_at fun o ho=>kx10.at_ ho fun e=>by
    have:=(hl9.ad_lt M e).1
    have:M + 1≤M:=this
    omega⟩
   conv=>whnf
   refine ⟨(S7 ++ [s0 + 1],_,_,H10),⟨rfl,rfl,rfl,rfl,rfl,rfl,rfl,rfl,rfl,trivial⟩,⟨rfl,hadd,hdm10,old_snoc hx7,old_snoc hs7,aK10,fun e=>?_,hseen10⟩,rfl⟩
   have h1:=had10 K e
   have h2:=Hp.lt_of_at aK9
   omega
 rintro ⟨fnd,st,T,H5⟩ φ6 _ ⟨rfl,hdm,hres⟩
 dsimp only at hdm hres ⊢
 have ka:=hcxa H5 h.next 25 hdm.gr hdm.xa
 have ca0:cellAt H5 h.next 0 = some (int (a.base:Int)):=ka.c0
 rcases hres with ⟨rfl,hal⟩ | ⟨i,S,x,rfl,hdf,hx,hns⟩
 ·conv=>whnf
  refine SeqP.go ?_
  conv=>whnf
  refine SeqP.go ?_
  conv=>whnf
  refine cmpT (by omega) ?_
  conv=>whnf
  refine SeqP.go ?_
  conv=>whnf
  exact ⟨⟨0,false,rfl,fun _=>⟨rfl,hal⟩,fun e=>by cases e⟩,hdm.gr⟩
 have hfew:=few hdf
 have hsl:=(List.getElem?_eq_some_iff.1 hx).1
 have hexs:∃ s,S[i]? = some s:=⟨_,List.getElem?_eq_getElem (by have:=hdf.len; omega)⟩
 obtain ⟨sF,hsF⟩:=hexs
 have hxm:=sq_mem.1 (hdf.mem x (List.mem_of_getElem? hx))
 have hnal:¬ Mac.Alike a b 0 0:=hdf.differ hx hns
 have hmoore:=moore2 ha hb hbb hnal
 obtain ⟨w0,hw0,hwl,hwd⟩:=hmoore
 have hsle:=hdf.least hsF hw0 hwd
 have hb1:=ha.b1
 have hsk:=hdm.l.slice
 obtain ⟨ast,rfl,-⟩:=hsk
 conv=>whnf
 refine SeqP.cut (α:=Unit) (fun _=>[(9,int i),(8,.slice ast T.length T.length),(2,ptr h.next 0)]) (fun _ H6=>H5 = H6) ?_ ?_
 ·conv=>whnf
  refine SeqP.go ?_
  conv=>whnf
  refine cmpF (by omega) ?_
  conv=>whnf
  exact ⟨(),⟨rfl,rfl,rfl,trivial⟩,rfl,rfl⟩
 rintro _ φ7 _ rfl
 conv=>whnf
 refine SeqP.go ?_
 conv=>whnf
 refine SeqP.cut (α:=Int×List Nat) (fun s=>[(14,int s.1)]) (fun s H6=>H5 = H6∧Mac.Wd a.base s.2∧s.2.length≤a.out.length + b.out.length∧a.o (a.run 0 s.2)≠b.o (b.run 0 s.2)∧(a.out.length + b.out.length≤26→s.1 = val a.base s.2)) ?_ ?_
 rotate_left
 ·rintro ⟨n,v⟩ φ8 _ ⟨rfl,h1,h2,h3,h4⟩
  dsimp only at h1 h2 h3 h4 ⊢
  conv=>whnf
  refine SeqP.go ?_
  conv=>whnf
  exact ⟨⟨n,true,rfl,fun e=>(by cases e),fun _=>⟨v,h1,h2,h3,h4⟩⟩,hdm.gr⟩
 conv=>whnf
 refine SeqP.go ?_
 conv=>whnf
 refine loop_inv (α:=Nat×Int×List Nat×En×Nat) (fun s=>[(15,int s.1),(14,int s.2.1),(8,.slice ast T.length T.length),(2,ptr h.next 0)]) (fun _=>H5) (fun s=>T[s.1]? = some s.2.2.2.1∧S[s.1]? = some s.2.2.2.2∧Mac.Wd a.base s.2.2.1∧s.2.2.1.length + s.2.2.2.2 = sF∧runS (nextP a b) s.2.2.2.1.p s.2.2.1 = x.p∧(a.out.length + b.out.length≤26→s.2.1 = val a.base s.2.2.1)) (fun s=>s.1) (i,0,[],x,sF) ⟨hx,hsF,by simp [Mac.Wd],by simp,rfl,fun _=>rfl⟩ ⟨rfl,rfl,rfl,rfl,trivial⟩ (Hp.Le.refl _) ?_
 rintro ⟨c,n,v,e,t⟩ φ8 ⟨hc,ht,hv,hvl,hrun,hval⟩
 dsimp only at hc ht hv hvl hrun hval ⊢
 have hcl:=(List.getElem?_eq_some_iff.1 hc).1
 have hcc:=hdm.cell hc
 obtain ⟨rs,ers,-,hc2,hc3⟩:=hcc
 cases ers
 conv=>whnf
 refine SeqP.go ?_
 conv=>whnf
 refine ⟨rfl,⟨by omega,by omega⟩,?_⟩
 conv=>whnf
 refine ⟨_,hc2,?_⟩
 conv=>whnf
 by_cases h0:c = 0
 ·subst h0
  have hf:=hdf.first
  obtain ⟨e0,h1,h2,h3⟩:=hf
  rw [hc] at h1
  cases h1
  have ht0:=hdf.s0
  rw [ht] at ht0
  cases ht0
  refine cmpF (by omega) ?_
  conv=>whnf
  refine ⟨(n,v),⟨rfl,trivial⟩,⟨rfl,hv,by show v.length≤_; omega,?_,hval⟩,rfl⟩
  dsimp only
  rw [h2] at hrun
  have e3:((0:Int),(0:Int)) = (((0:Nat):Int),((0:Nat):Int)):=rfl
  rw [e3,runP] at hrun
  intro q
  refine hns ?_
  rw [← hrun]
  unfold sameP
  rw [Int.toNat_natCast,Int.toNat_natCast]
  exact q
 ·have hp:=hdf.par c e (by omega) hc
  obtain ⟨k,g,e',s',h1,h2,h3,h4,h5,h6,h7,h8⟩:=hp
  rw [ht] at h8
  have h8:t = s' + 1:=by injection h8
  refine cmpT (by omega) ?_
  have hvlt:=val_lt hb1 (Mac.Wd.cons h4 hv)
  have ecv:val a.base (g :: v) = g + a.base * val a.base v:=rfl
  conv=>whnf
  refine SeqP.go ?_
  conv=>whnf
  refine ⟨_,ca0,?_⟩
  conv=>whnf
  refine ⟨_,wany _ _,?_⟩
  conv=>whnf
  refine ⟨rfl,⟨by omega,by omega⟩,?_⟩
  conv=>whnf
  refine ⟨_,hc3,?_⟩
  conv=>whnf
  refine ⟨_,wany _ _,?_⟩
  conv=>whnf
  refine ⟨rfl,⟨by omega,by omega⟩,?_⟩
  conv=>whnf
  refine ⟨_,hc2,?_⟩
  conv=>whnf
  rw [h1,h2]
  refine Rnd.mk (k,wrapI .i64 (wrapI .i64 (n * a.base) + g),g :: v,e',s') ⟨h5,h7,Mac.Wd.cons h4 hv,by show (g :: v).length + s' = sF; rw [List.length_cons]; omega,?_,fun hN=>?_⟩ (by show k < c; exact h3) ⟨rfl,rfl,rfl,rfl,trivial⟩ (Hp.Le.refl _) rfl
  ·show runS (nextP a b) (nextP a b e'.p g) v = x.p
   rw [← h6]; exact hrun
  ·have hn:=hval hN
   have hpw:=pow26 (b:=a.base) (k:=(g :: v).length) hb5 (by rw [List.length_cons]; omega) hb1
   have e1:n * (a.base:Int) = ((a.base * val a.base v:Nat):Int):=by rw [hn,Int.natCast_mul,Int.mul_comm]
   show wrapI .i64 (wrapI .i64 (n * a.base) + g) = ((val a.base (g :: v):Nat):Int)
   have hexm:∃ m,a.base * val a.base v = m:=⟨_,rfl⟩
   obtain ⟨m,em⟩:=hexm
   rw [em] at e1 ecv
   have e2:wrapI .i64 ((m:Nat):Int) = (m:Int):=wrapI_id (by omega)
   have e3:wrapI .i64 ((m:Int) + g) = (m:Int) + g:=wrapI_id (by omega)
   rw [e1,e2,e3,ecv]
   omega
end
end Go.Proofs.Ytedneplaibmppaa
namespace Go.Proofs.Ytedneplaibmppaa
open Go.Rx Go.RowKit
def RoundP (m:Mac) (q p:Nat):Prop:=∀ n,m.at_ 0 (n + q) = m.at_ 0 (n + q + p)
theorem round_alike {m:Mac} (hm:OkS m) (q p:Nat):Mac.Alike (m.every 1 q) (m.every 1 (q + p)) 0 0↔RoundP m q p:=by
 have h1:=Mac.every_ok hm.ok 1 q
 have h2:=Mac.every_ok hm.ok 1 (q + p)
 rw [Mac.alike_at h1.1 h2.1 hm.b2 rfl (Mac.every_zer hm.ok hm.b2 hm.zer 1 q) (Mac.every_zer hm.ok hm.b2 hm.zer 1 (q + p)) h1.1.n1 h2.1.n1]
 constructor
 ·intro h n
  have:=h n
  rw [Mac.every_at hm.ok hm.b2 hm.zer,Mac.every_at hm.ok hm.b2 hm.zer,Nat.one_mul] at this
  rw [this,Nat.add_assoc]
 ·intro h n
  rw [Mac.every_at hm.ok hm.b2 hm.zer,Mac.every_at hm.ok hm.b2 hm.zer,Nat.one_mul,h n,Nat.add_assoc]
def startF (m:Mac) (p:Nat):Nat→Nat
 | 0=>0
 | q + 1=>if m.at_ 0 q = m.at_ 0 (q + p) then startF m p q else q + 1
theorem eqI_refl (n:Int):eqI n n = true:=by unfold eqI; cases n <;> simp
theorem sameV_mac (n:Int) (a a':Option Addr) (l c l' c':Nat):sameV 4 (.agg ⟨[int n,.slice a l c,.slice a' l' c']⟩) (.agg ⟨[int n,.slice a l c,.slice a' l' c']⟩) = true:=by
 simp [sameV,eqI_refl]
theorem Bx.same {h:Hp} {bx:List Value} {M:MacI} (k:Bx h bx M):sameV 4 (.agg ⟨bx⟩) (.agg ⟨bx⟩) = true:=by
 obtain ⟨hl,hb,⟨a,c,ho,_⟩,⟨a',c',hn,_⟩⟩:=k
 match bx,hl with
 | [x,y,z],_=>cases hb; cases ho; cases hn; exact sameV_mac _ _ _ _ _ _ _
def FindR (m:Mac) (r:Value):Prop:=(∃ p,1≤p∧p≤30∧RoundP m 60 p∧(∀ p',1≤p'→p' < p→¬ RoundP m 60 p')∧r = .tuple ⟨[int (startF m p 60:Nat),int p,.bool true,int 0]⟩)∨((∀ p',1≤p'→p'≤30→¬ RoundP m 60 p')∧r = .tuple ⟨[int 0,int 0,.bool false,int 0]⟩)
theorem add_val {x y r:Int} {h:Hp} (e:x + y = r) (b:-9223372036854775808≤r∧r < 9223372036854775808):hval h (arK .i64 .add x y) = .val (int r) h:=by
 unfold arK
 dsimp only
 rw [e,wrapI_id b]
 rfl
theorem sub_val {x y r:Int} {h:Hp} (e:x - y = r) (b:-9223372036854775808≤r∧r < 9223372036854775808):hval h (arK .i64 .sub x y) = .val (int r) h:=by
 unfold arK
 dsimp only
 rw [e,wrapI_id b]
 rfl
theorem mul_val {x y r:Int} {h:Hp} (e:x * y = r) (b:-9223372036854775808≤r∧r < 9223372036854775808):hval h (arK .i64 .mul x y) = .val (int r) h:=by
 unfold arK
 dsimp only
 rw [e,wrapI_id b]
 rfl
attribute [local irreducible] E idxN cellAt cellsAt storeAt callable helems hmoved lookIn findKey keyOk hentries Hp.at Hp.set Hp.lay arBits hupdated setAt CallP YieldP BoolOf IsWrap Rnd LoopP AppP CutP Int.tmod Int.tdiv Int.fdiv
section
variable [Unknowns]
attribute [local irreducible] sameAt
theorem isRound_spec (v:Value) (m:Mac) (q p:Nat) (h:Hp) (hv:MV h v m.i) (hm:OkS m) (hq:q≤100) (hp:p≤100):CallP E 77 [v,int q,int p] h (fun r h'=>(∃ b,r = .bool b∧BoolOf b (RoundP m q p))∧Grows h h'):=by
 obtain ⟨bx,rfl,hbx⟩:=hv.box
 have hlenx:=hbx.len
 have hsb:=hbx.same
 have hn12:=hm.n12
 have hb5:=hm.b5
 have e1:=Mac.every_ok hm.ok 1 q
 have e2:=Mac.every_ok hm.ok 1 (q + p)
 have l1:(m.every 1 q).out.length≤12 * 101:=Nat.le_trans e1.2 (Nat.mul_le_mul hn12 (by omega))
 have l2:(m.every 1 (q + p)).out.length≤12 * 201:=Nat.le_trans e2.2 (Nat.mul_le_mul hn12 (by omega))
 have lm:=Nat.mul_le_mul l1 l2
 refine enter77 (by simp) ?_
 conv=>whnf
 refine SeqP.cut (α:=Hp) (fun _=>[(3,ptr h.next 0),(1,int q),(2,int p)]) (fun x H=>x = H∧Grows h H∧H.at h.next = some (.row 25 true bx)) ?_ ?_
 ·conv=>whnf
  exact ⟨_,⟨rfl,rfl,rfl,trivial⟩,⟨rfl,Grows.lay _ _,Hp.at_lay_self _ _⟩,rfl⟩
 rintro H φ1 _ ⟨rfl,gH,aX⟩
 have c0:=all_cells aX hlenx
 conv=>whnf
 refine SeqP.cut (α:=Bool×Hp) (fun s=>[(8,.bool s.1)]) (fun s H2=>s.2 = H2∧Grows H s.2∧BoolOf s.1 (¬ RoundP m q p)) ?_ ?_
 ·conv=>whnf
  refine ⟨_,c0,?_⟩
  conv=>whnf
  refine CallP.mono (every_spec _ m 1 q _ (Bx.mv (hbx.ext gH)) hm (by omega) (by omega)) ?_
  rintro w1 H1 ⟨hw1,g1⟩
  have c1:=g1.cells c0
  conv=>whnf
  refine ⟨_,c1,?_⟩
  conv=>whnf
  refine ⟨((q + p:Nat):Int),wie (by omega) (by omega),?_⟩
  conv=>whnf
  refine CallP.mono (every_spec _ m 1 (q + p) _ (Bx.mv (hbx.ext (gH.trans g1))) hm (by omega) (by omega)) ?_
  rintro w2 H2 ⟨hw2,g2⟩
  have c2:=g2.cells c1
  conv=>whnf
  refine CallP.mono (diff_spec _ _ (m.every 1 q) (m.every 1 (q + p)) _ (hw1.mv.ext g2) hw2.mv e1.1 e2.1 rfl hb5 (by omega)) ?_
  rintro r H3 ⟨⟨n,d,rfl,hd1,hd2⟩,g3⟩
  have c3:=g3.cells c2
  conv=>whnf
  refine ⟨?_,?_⟩
  ·repeat' (first | exact True.intro | (refine And.intro ?_ ?_ <;> (conv=>whnf)))
   all_goals first
    | exact sameAt_val (h2:=_) rfl (sameV_int _)
    | exact sameAt_val (h2:=_) (congrArg (fun x=>hval _ (aggOf x)) c0) hsb
    | exact sameAt_val (h2:=_) (congrArg (fun x=>hval _ (aggOf x)) c1) hsb
    | exact sameAt_val (h2:=_) (congrArg (fun x=>hval _ (aggOf x)) c2) hsb
    | exact sameAt_val (h2:=_) (congrArg (fun x=>hval _ (aggOf x)) c3) hsb
    | exact sameAt_val (h2:=_) (show hval _ (arK .i64 .add _ _) = _ from add_val (by omega) (by omega)) (sameV_int _)
    | exact sameAt_val (h2:=_) (show hval _ (arK .i64 .sub _ _) = _ from sub_val (by omega) (by omega)) (sameV_int _)
  refine ⟨(d,H3),⟨rfl,trivial⟩,⟨rfl,(g1.trans g2).trans g3,?_⟩,rfl⟩
  dsimp only
  cases d with
  | false=>exact bo_no fun k=>k ((round_alike hm q p).1 (hd1 rfl).2)
  | true =>
   refine bo_yes fun k=>?_
   obtain ⟨w,hw,_,hne,_⟩:=hd2 rfl
   exact hne ((round_alike hm q p).2 k w hw)
 rintro ⟨d,H2⟩ φ2 _ ⟨rfl,g2,hd⟩
 dsimp only at g2 hd ⊢
 cases d with
 | false =>
  conv=>whnf
  repeat (refine SeqP.go ?_; conv=>whnf)
  exact ⟨⟨true,rfl,bo_yes (Classical.byContradiction hd.f)⟩,gH.trans g2⟩
 | true =>
  conv=>whnf
  repeat (refine SeqP.go ?_; conv=>whnf)
  exact ⟨⟨false,rfl,bo_no hd.t⟩,gH.trans g2⟩
theorem start_spec (v:Value) (m:Mac) (p:Nat) (h:Hp) (hv:MV h v m.i) (hm:OkS m) (hp:p≤100):CallP E 78 [v,int p] h (fun r h'=>r = int (startF m p 60:Nat)∧Grows h h'):=by
 obtain ⟨bx,rfl,hbx⟩:=hv.box
 have hlenx:=hbx.len
 have hsb:=hbx.same
 have hn12:=hm.n12
 have hnn:=hm.n1
 refine enter78 (by simp) ?_
 conv=>whnf
 refine SeqP.cut (α:=Hp) (fun _=>[(2,ptr h.next 0),(1,int p)]) (fun x H=>x = H∧Grows h H∧H.at h.next = some (.row 25 true bx)) ?_ ?_
 ·conv=>whnf
  exact ⟨_,⟨rfl,rfl,trivial⟩,⟨rfl,Grows.lay _ _,Hp.at_lay_self _ _⟩,rfl⟩
 rintro H φ1 _ ⟨rfl,gH,aX⟩
 conv=>whnf
 refine SeqP.go ?_
 conv=>whnf
 refine SeqP.cut (α:=Hp) (fun _=>[(5,int (startF m p 60:Nat))]) (fun x H2=>x = H2∧Grows h x) ?_ ?_
 rotate_left
 ·rintro H2 φ2 _ ⟨rfl,g2⟩
  conv=>whnf
  repeat (refine SeqP.go ?_; conv=>whnf)
  exact ⟨rfl,g2⟩
 conv=>whnf
 refine loop_inv (α:=Nat×Hp) (fun s=>[(5,int s.1),(2,ptr h.next 0),(1,int p)]) (fun s=>s.2) (fun s=>s.1≤60∧startF m p s.1 = startF m p 60∧Grows H s.2) (fun s=>s.1) (60,H) ⟨Nat.le_refl _,rfl,.refl _⟩ ⟨rfl,rfl,rfl,trivial⟩ (Hp.Le.refl _) ?_
 rintro ⟨q,H3⟩ φ3 ⟨hq,hst,g3⟩
 dsimp only at hq hst g3 ⊢
 have c0:=g3.cells (all_cells aX hlenx)
 conv=>whnf
 refine SeqP.cut (α:=Hp) (fun s=>[(5,int q),(2,ptr h.next 0),(1,int p)]) (fun s H4=>s = H4∧Grows H s∧∃ q',q = q' + 1∧startF m p q' = startF m p 60) ?_ ?_
 rotate_left
 ·rintro H4 φ4 _ ⟨rfl,g4,q',rfl,hq'⟩
  conv=>whnf
  refine ⟨((q':Nat):Int),wie (by omega) (by omega),?_⟩
  conv=>whnf
  exact Rnd.mk (q',H4) ⟨by show q'≤60; omega,hq',g4⟩ (by show q' < q' + 1; omega) ⟨rfl,rfl,rfl,trivial⟩ (Hp.Le.refl _) rfl
 conv=>whnf
 refine SeqP.go ?_
 conv=>whnf
 refine cmpB (fun q1=>?_) (fun q1=>?_)
 rotate_left
 ·have:q = 0:=by omega
  subst this
  conv=>whnf
  refine ⟨?_,?_⟩
  ·repeat' (first | exact True.intro | (refine And.intro ?_ ?_ <;> (conv=>whnf)))
   all_goals first
    | exact sameAt_val (h2:=_) rfl (sameV_int _)
    | exact True.intro
    | exact sameAt_val (h2:=_) (show hval _ (arK .i64 .add _ _) = _ from add_val (by omega) (by omega)) (sameV_int _)
    | exact sameAt_val (h2:=_) (show hval _ (arK .i64 .sub _ _) = _ from sub_val (by omega) (by omega)) (sameV_int _)
  conv=>whnf
  exact ⟨H3,⟨by rw [← hst]; rfl,trivial⟩,⟨rfl,gH.trans g3⟩,rfl⟩
 have hexq:∃ q',q = q' + 1:=⟨q - 1,by omega⟩
 obtain ⟨q',rfl⟩:=hexq
 conv=>whnf
 refine ⟨_,c0,?_⟩
 conv=>whnf
 refine ⟨(q':Int),wie (by omega) (by omega),?_⟩
 conv=>whnf
 refine CallP.mono (at_spec _ m 0 q' _ (Bx.mv (hbx.ext (gH.trans g3))) hm.ok hm.b25 hnn (by omega) (by omega)) ?_
 rintro r H4 ⟨rfl,g4⟩
 have c1:=g4.cells c0
 conv=>whnf
 refine ⟨_,c1,?_⟩
 conv=>whnf
 refine ⟨(q':Int),wie (by omega) (by omega),?_⟩
 conv=>whnf
 refine ⟨((q' + p:Nat):Int),wie (by omega) (by omega),?_⟩
 conv=>whnf
 refine CallP.mono (at_spec _ m 0 (q' + p) _ (Bx.mv (hbx.ext ((gH.trans g3).trans g4))) hm.ok hm.b25 hnn (by omega) (by omega)) ?_
 rintro r H5 ⟨rfl,g5⟩
 have c2:=g5.cells c1
 have hok:startF m p (q' + 1) = if m.at_ 0 q' = m.at_ 0 (q' + p) then startF m p q' else q' + 1:=rfl
 conv=>whnf
 refine cmpB (fun q2=>?_) (fun q2=>?_)
 ·rw [if_pos q2] at hok
  conv=>whnf
  refine ⟨?_,?_⟩
  ·repeat' (first | exact True.intro | (refine And.intro ?_ ?_ <;> (conv=>whnf)))
   all_goals first
    | exact sameAt_val (h2:=_) rfl (sameV_int _)
    | exact sameAt_val (h2:=_) (congrArg (fun x=>hval _ (aggOf x)) c0) hsb
    | exact sameAt_val (h2:=_) (congrArg (fun x=>hval _ (aggOf x)) c1) hsb
    | exact sameAt_val (h2:=_) (congrArg (fun x=>hval _ (aggOf x)) c2) hsb
    | exact sameAt_val (h2:=_) (show hval _ (arK .i64 .add _ _) = _ from add_val (by omega) (by omega)) (sameV_int _)
    | exact sameAt_val (h2:=_) (show hval _ (arK .i64 .sub _ _) = _ from sub_val (by omega) (by omega)) (sameV_int _)
  conv=>whnf
  exact ⟨H5,⟨rfl,rfl,rfl,trivial⟩,⟨rfl,(g3.trans g4).trans g5,q',rfl,by rw [← hok]; exact hst⟩,rfl⟩
 ·rw [if_neg q2] at hok
  conv=>whnf
  refine ⟨?_,?_⟩
  ·repeat' (first | exact True.intro | (refine And.intro ?_ ?_ <;> (conv=>whnf)))
   all_goals first
    | exact sameAt_val (h2:=_) rfl (sameV_int _)
    | exact sameAt_val (h2:=_) (congrArg (fun x=>hval _ (aggOf x)) c0) hsb
    | exact sameAt_val (h2:=_) (congrArg (fun x=>hval _ (aggOf x)) c1) hsb
    | exact sameAt_val (h2:=_) (congrArg (fun x=>hval _ (aggOf x)) c2) hsb
    | exact sameAt_val (h2:=_) (show hval _ (arK .i64 .add _ _) = _ from add_val (by omega) (by omega)) (sameV_int _)
    | exact sameAt_val (h2:=_) (show hval _ (arK .i64 .sub _ _) = _ from sub_val (by omega) (by omega)) (sameV_int _)
  conv=>whnf
  exact ⟨H5,⟨by rw [← hst,hok]; rfl,trivial⟩,⟨rfl,gH.trans ((g3.trans g4).trans g5)⟩,rfl⟩
theorem FindRound_spec (v:Value) (m:Mac) (h:Hp) (hv:MV h v m.i) (hm:OkS m):CallP E 33 [v] h (fun r h'=>FindR m r∧Grows h h'):=by
 obtain ⟨bx,rfl,hbx⟩:=hv.box
 have hlenx:=hbx.len
 have hL:=hm.lens
 refine enter33 (by simp) ?_
 conv=>whnf
 refine SeqP.cut (α:=Hp) (fun _=>[(1,ptr h.next 0)]) (fun x H=>x = H∧Grows h H∧H.at h.next = some (.row 25 true bx)) ?_ ?_
 ·conv=>whnf
  exact ⟨_,⟨rfl,trivial⟩,⟨rfl,Grows.lay _ _,Hp.at_lay_self _ _⟩,rfl⟩
 rintro H φ1 _ ⟨rfl,gH,aX⟩
 conv=>whnf
 refine SeqP.cut (α:=Hp) (fun _=>[(1,ptr h.next 0)]) (fun x H2=>x = H2∧Grows H H2) ?_ ?_
 ·conv=>whnf
  refine SeqP.go ?_
  conv=>whnf
  refine ⟨_,all_cells aX hbx.len,?_⟩
  conv=>whnf
  refine CallP.mono (Check_spec _ m.i _ (Bx.mv (hbx.ext gH)) hL.1 hL.2.1 hL.2.2) ?_
  rintro r H2 ⟨⟨e,rfl,he,-⟩,g2⟩
  have he:=he hm.ck
  subst he
  conv=>whnf
  repeat (refine SeqP.go ?_; conv=>whnf)
  refine cmpF (by omega) ?_
  conv=>whnf
  exact ⟨_,⟨rfl,trivial⟩,⟨rfl,g2⟩,rfl⟩
 rintro H2 φ2 _ ⟨rfl,g2⟩
 have gh2:=gH.trans g2
 conv=>whnf
 refine SeqP.cut (α:=Hp) (fun _=>[]) (fun x H3=>x = H3∧Grows h x∧∀ p',1≤p'→p'≤30→¬ RoundP m 60 p') ?_ ?_
 rotate_left
 ·rintro H3 φ3 _ ⟨rfl,g3,hno⟩
  conv=>whnf
  repeat (refine SeqP.go ?_; conv=>whnf)
  exact ⟨.inr ⟨hno,rfl⟩,g3⟩
 conv=>whnf
 refine SeqP.go ?_
 conv=>whnf
 refine loop_inv (α:=Nat×Hp) (fun s=>[(3,int s.1),(1,ptr h.next 0)]) (fun s=>s.2) (fun s=>1≤s.1∧s.1≤31∧Grows H s.2∧∀ p',1≤p'→p' < s.1→¬ RoundP m 60 p') (fun s=>31 - s.1) (1,H2) ⟨Nat.le_refl _,by omega,g2,fun p' h1 h2=>by omega⟩ ⟨rfl,rfl,trivial⟩ (Hp.Le.refl _) ?_
 rintro ⟨p,H3⟩ φ3 ⟨hp1,hp31,g3,hno⟩
 dsimp only at hp1 hp31 g3 hno ⊢
 have c0:=g3.cells (all_cells aX hlenx)
 conv=>whnf
 repeat (refine SeqP.go ?_; conv=>whnf)
 refine cmpB (fun q1=>?_) (fun q1=>?_)
 rotate_left
 ·conv=>whnf
  exact ⟨H3,trivial,⟨rfl,gH.trans g3,fun p' h1 h2=>hno p' h1 (by omega)⟩,rfl⟩
 conv=>whnf
 refine SeqP.cut (α:=Hp) (fun s=>[(3,int p),(1,ptr h.next 0)]) (fun s H4=>s = H4∧Grows H s∧¬ RoundP m 60 p) ?_ ?_
 rotate_left
 ·rintro H4 φ4 _ ⟨rfl,g4,hnp⟩
  conv=>whnf
  refine ⟨((p + 1:Nat):Int),wie (by omega) (by omega),?_⟩
  conv=>whnf
  exact Rnd.mk (p + 1,H4) ⟨by show 1≤p + 1; omega,by show p + 1≤31; omega,g4,fun p' h1 h2=>by
   have h2:p' < p + 1:=h2
   by_cases e:p' = p
   ·rw [e]; exact hnp
   ·exact hno p' h1 (by omega)⟩ (by show 31 - (p + 1) < 31 - p; omega) ⟨rfl,rfl,trivial⟩ (Hp.Le.refl _) rfl
 conv=>whnf
 refine SeqP.go ?_
 conv=>whnf
 refine ⟨_,c0,?_⟩
 conv=>whnf
 refine CallP.mono (isRound_spec _ m 60 p _ (Bx.mv (hbx.ext (gH.trans g3))) hm (by omega) (by omega)) ?_
 rintro r H4 ⟨⟨b,rfl,hb⟩,g4⟩
 have c1:=g4.cells c0
 cases b with
 | false =>
  conv=>whnf
  exact ⟨H4,⟨rfl,rfl,trivial⟩,⟨rfl,g3.trans g4,hb.f⟩,rfl⟩
 | true =>
  conv=>whnf
  refine SeqP.go ?_
  conv=>whnf
  refine ⟨_,c1,?_⟩
  conv=>whnf
  refine CallP.mono (start_spec _ m p _ (Bx.mv (hbx.ext ((gH.trans g3).trans g4))) hm (by omega)) ?_
  rintro r H5 ⟨rfl,g5⟩
  conv=>whnf
  exact ⟨.inl ⟨p,hp1,by omega,hb.t,hno,rfl⟩,((gH.trans g3).trans g4).trans g5⟩
end
end Go.Proofs.Ytedneplaibmppaa
namespace Go.Proofs.Ytedneplaibmppaa
open Go.Rx Go.RowKit
def foldN (L f n:Nat):Nat:=if n < f then n else f + (n - f) % (L - f)
theorem foldN_lt {L f n:Nat} (h:f < L):foldN L f n < L:=by
 unfold foldN
 split
 ·omega
 ·have:=Nat.mod_lt (n - f) (show L - f > 0 by omega)
  omega
def nextR (L f b:Nat) (p:Int×Int) (d:Nat):Int×Int:=((foldN L f (p.1.toNat * b):Nat),(foldN L f (p.2.toNat + p.1.toNat * d):Nat))
def outR (l:List Int) (p:Int×Int):Int:=gl l p.2.toNat
noncomputable def ringM (b:Nat) (l:List Int) (f:Nat):Mac:=built b (((foldN l.length f 1:Nat):Int),(0:Int)) (outR l) (nextR l.length f b)
theorem ring_fin {L f b:Nat} (h:f < L):Fin_ (nextR L f b) b (sq L L):=⟨fun p hp d hd=>by
 refine sq_mem.2 ?_
 have h1:=foldN_lt (n:=p.1.toNat * b) h
 have h2:=foldN_lt (n:=p.2.toNat + p.1.toNat * d) h
 unfold nextR
 dsimp only
 omega⟩
theorem ring_mem {L f:Nat} (h:f < L):(((foldN L f 1:Nat):Int),(0:Int)) ∈ sq L L:=sq_mem.2 (by have:=foldN_lt (n:=1) h; dsimp only; omega)
theorem ring_ok {b:Nat} (hb:1≤b) {l:List Int} {f:Nat} (h:f < l.length):(ringM b l f).Ok∧(ringM b l f).out.length≤l.length * l.length:=by
 have:=built_ok (ring_fin (b:=b) h) (ring_mem h) (outR l) hb
 rw [sq_len] at this
 exact this
def rv (a:Option Addr) (n:Nat) (f:Nat):Value:=.agg ⟨[.slice a n n,int f]⟩
def BadR (base:Int) (a b:List Int):Prop:=base < 2∨5 < base∨20 < a.length∨b.length < 1∨20 < b.length∨(¬ ∀ x ∈ a,0≤x∧x≤9)∨(¬ ∀ x ∈ b,0≤x∧x≤9)
theorem sameV_ring (a:Option Addr) (l c:Nat) (n:Int):sameV 4 (.agg ⟨[.slice a l c,int n]⟩) (.agg ⟨[.slice a l c,int n]⟩) = true:=by
 simp [sameV,eqI_refl]
theorem sameV_fun1 (g a b:Nat):sameV 4 (.func (.func g) ⟨[]⟩ ⟨[ptr a b]⟩) (.func (.func g) ⟨[]⟩ ⟨[ptr a b]⟩) = true:=by
 simp [sameV,ptr]
theorem sameV_fun2 (g a b c d:Nat):sameV 4 (.func (.func g) ⟨[]⟩ ⟨[ptr a b,ptr c d]⟩) (.func (.func g) ⟨[]⟩ ⟨[ptr a b,ptr c d]⟩) = true:=by
 simp [sameV,ptr]
attribute [local irreducible] E idxN cellAt cellsAt storeAt callable helems hmoved lookIn findKey keyOk hentries Hp.at Hp.set Hp.lay arBits hupdated setAt CallP YieldP BoolOf IsWrap Rnd LoopP AppP CutP Int.tmod Int.tdiv Int.fdiv
section
variable [Unknowns]
attribute [local irreducible] sameAt finP
theorem Morse_spec (h:Hp):CallP E 22 [] h (fun r h'=>OwnM h h' r ⟨2,[0,1],[[0,1],[1,0]]⟩∧Grows h h'):=by
 refine enter22 (by simp) ?_
 conv=>whnf
 refine SeqP.cut (α:=Hp) (fun _=>[(0,ptr h.next 0)]) (fun x H=>x = H∧Grows h H∧H.at h.next = some (.row 25 true [int 0,nilS,nilS])∧H.next = h.next + 1) ?_ ?_
 ·conv=>whnf
  exact ⟨_,⟨rfl,trivial⟩,⟨rfl,Grows.lay _ _,Hp.at_lay_self _ _,Hp.next_lay _ _⟩,rfl⟩
 rintro H φ1 _ ⟨rfl,gH,aR,nH⟩
 have n1:(H.lay (.row 3 true [int 0,int 1])).next = H.next + 1:=Hp.next_lay _ _
 have n2:((H.lay (.row 3 true [int 0,int 1])).lay (.row 3 true [int 0,int 1])).next = H.next + 2:=by rw [Hp.next_lay,n1]
 have n3:(((H.lay (.row 3 true [int 0,int 1])).lay (.row 3 true [int 0,int 1])).lay (.row 3 true [int 1,int 0])).next = H.next + 3:=by rw [Hp.next_lay,n2]
 have g4:Grows H ((((H.lay (.row 3 true [int 0,int 1])).lay (.row 3 true [int 0,int 1])).lay (.row 3 true [int 1,int 0])).lay (.row 22 true [slc (H.lay (.row 3 true [int 0,int 1])).next 0 2 2,slc ((H.lay (.row 3 true [int 0,int 1])).lay (.row 3 true [int 0,int 1])).next 0 2 2])):=(((Grows.lay _ _).then_lay _).then_lay _).then_lay _
 have b1:((((H.lay (.row 3 true [int 0,int 1])).lay (.row 3 true [int 0,int 1])).lay (.row 3 true [int 1,int 0])).lay (.row 22 true [slc (H.lay (.row 3 true [int 0,int 1])).next 0 2 2,slc ((H.lay (.row 3 true [int 0,int 1])).lay (.row 3 true [int 0,int 1])).next 0 2 2])).at H.next = some (.row 3 true [int 0,int 1]):=Hp.at_lay_old _ (Hp.at_lay_old _ (Hp.at_lay_old _ (Hp.at_lay_self _ _)))
 have b2:((((H.lay (.row 3 true [int 0,int 1])).lay (.row 3 true [int 0,int 1])).lay (.row 3 true [int 1,int 0])).lay (.row 22 true [slc (H.lay (.row 3 true [int 0,int 1])).next 0 2 2,slc ((H.lay (.row 3 true [int 0,int 1])).lay (.row 3 true [int 0,int 1])).next 0 2 2])).at (H.lay (.row 3 true [int 0,int 1])).next = some (.row 3 true [int 0,int 1]):=Hp.at_lay_old _ (Hp.at_lay_old _ (Hp.at_lay_self _ _))
 have b3:((((H.lay (.row 3 true [int 0,int 1])).lay (.row 3 true [int 0,int 1])).lay (.row 3 true [int 1,int 0])).lay (.row 22 true [slc (H.lay (.row 3 true [int 0,int 1])).next 0 2 2,slc ((H.lay (.row 3 true [int 0,int 1])).lay (.row 3 true [int 0,int 1])).next 0 2 2])).at ((H.lay (.row 3 true [int 0,int 1])).lay (.row 3 true [int 0,int 1])).next = some (.row 3 true [int 1,int 0]):=Hp.at_lay_old _ (Hp.at_lay_self _ _)
 have b4:((((H.lay (.row 3 true [int 0,int 1])).lay (.row 3 true [int 0,int 1])).lay (.row 3 true [int 1,int 0])).lay (.row 22 true [slc (H.lay (.row 3 true [int 0,int 1])).next 0 2 2,slc ((H.lay (.row 3 true [int 0,int 1])).lay (.row 3 true [int 0,int 1])).next 0 2 2])).at (((H.lay (.row 3 true [int 0,int 1])).lay (.row 3 true [int 0,int 1])).lay (.row 3 true [int 1,int 0])).next = some (.row 22 true [slc (H.lay (.row 3 true [int 0,int 1])).next 0 2 2,slc ((H.lay (.row 3 true [int 0,int 1])).lay (.row 3 true [int 0,int 1])).next 0 2 2]):=Hp.at_lay_self _ _
 have aR4:=g4.at_ _ _ aR
 conv=>whnf
 refine SeqP.go ?_
 conv=>whnf
 refine ⟨rfl,_,storeAt_full (vs:=[int 2,slc H.next 0 2 2,slc (((H.lay (.row 3 true [int 0,int 1])).lay (.row 3 true [int 0,int 1])).lay (.row 3 true [int 1,int 0])).next 0 2 2]) aR4 rfl rfl rfl,?_⟩
 conv=>whnf
 obtain ⟨i25,t25,ag25,sz25⟩:=ty25
 refine leave_cell (r:=h.next) (o:=0) (cs:=[int 2,slc H.next 0 2 2,slc (((H.lay (.row 3 true [int 0,int 1])).lay (.row 3 true [int 0,int 1])).lay (.row 3 true [int 1,int 0])).next 0 2 2]) rfl t25 ag25 ?_ ?_
 ·rw [sz25]
  exact all_cells (Hp.at_set_self _ (Hp.lt_of_at aR4)) rfl
 ·refine ⟨⟨_,_,[slc (H.lay (.row 3 true [int 0,int 1])).next 0 2 2,slc ((H.lay (.row 3 true [int 0,int 1])).lay (.row 3 true [int 0,int 1])).next 0 2 2],rfl,⟨rfl,.inr ⟨H.next,rfl,by omega,true,by rw [Hp.at_set_ne _ (by omega)]; exact b1⟩⟩,⟨rfl,.inr ⟨_,rfl,by omega,true,by rw [Hp.at_set_ne _ (by omega)]; exact b4⟩⟩,rfl,fun k u l h1 h2=>?_⟩,(gH.trans g4).then_set _ (by omega)⟩
  match k,h1,h2 with
  | 0,h1,h2=>cases h1; cases h2; exact .inr ⟨_,rfl,by omega,true,by rw [Hp.at_set_ne _ (by omega)]; exact b2⟩
  | 1,h1,h2=>cases h1; cases h2; exact .inr ⟨_,rfl,by omega,true,by rw [Hp.at_set_ne _ (by omega)]; exact b3⟩
  | k + 2,h1,h2=>simp at h1
theorem RMorse_spec (h:Hp):CallP E 60 [] h (fun r h'=>OwnM h h' r ⟨2,[0,1],[[0,1],[1,0]]⟩∧Grows h h'):=by
 refine enter60 (by simp) ?_
 conv=>whnf
 refine SeqP.cut (α:=Hp) (fun _=>[(0,ptr h.next 0)]) (fun x H=>x = H∧Grows h H∧H.at h.next = some (.row 26 true [int 0,nilS,nilS])∧H.next = h.next + 1) ?_ ?_
 ·conv=>whnf
  exact ⟨_,⟨rfl,trivial⟩,⟨rfl,Grows.lay _ _,Hp.at_lay_self _ _,Hp.next_lay _ _⟩,rfl⟩
 rintro H φ1 _ ⟨rfl,gH,aR,nH⟩
 have n1:(H.lay (.row 3 true [int 0,int 1])).next = H.next + 1:=Hp.next_lay _ _
 have n2:((H.lay (.row 3 true [int 0,int 1])).lay (.row 3 true [int 0,int 1])).next = H.next + 2:=by rw [Hp.next_lay,n1]
 have n3:(((H.lay (.row 3 true [int 0,int 1])).lay (.row 3 true [int 0,int 1])).lay (.row 3 true [int 1,int 0])).next = H.next + 3:=by rw [Hp.next_lay,n2]
 have g4:Grows H ((((H.lay (.row 3 true [int 0,int 1])).lay (.row 3 true [int 0,int 1])).lay (.row 3 true [int 1,int 0])).lay (.row 22 true [slc (H.lay (.row 3 true [int 0,int 1])).next 0 2 2,slc ((H.lay (.row 3 true [int 0,int 1])).lay (.row 3 true [int 0,int 1])).next 0 2 2])):=(((Grows.lay _ _).then_lay _).then_lay _).then_lay _
 have b1:((((H.lay (.row 3 true [int 0,int 1])).lay (.row 3 true [int 0,int 1])).lay (.row 3 true [int 1,int 0])).lay (.row 22 true [slc (H.lay (.row 3 true [int 0,int 1])).next 0 2 2,slc ((H.lay (.row 3 true [int 0,int 1])).lay (.row 3 true [int 0,int 1])).next 0 2 2])).at H.next = some (.row 3 true [int 0,int 1]):=Hp.at_lay_old _ (Hp.at_lay_old _ (Hp.at_lay_old _ (Hp.at_lay_self _ _)))
 have b2:((((H.lay (.row 3 true [int 0,int 1])).lay (.row 3 true [int 0,int 1])).lay (.row 3 true [int 1,int 0])).lay (.row 22 true [slc (H.lay (.row 3 true [int 0,int 1])).next 0 2 2,slc ((H.lay (.row 3 true [int 0,int 1])).lay (.row 3 true [int 0,int 1])).next 0 2 2])).at (H.lay (.row 3 true [int 0,int 1])).next = some (.row 3 true [int 0,int 1]):=Hp.at_lay_old _ (Hp.at_lay_old _ (Hp.at_lay_self _ _))
 have b3:((((H.lay (.row 3 true [int 0,int 1])).lay (.row 3 true [int 0,int 1])).lay (.row 3 true [int 1,int 0])).lay (.row 22 true [slc (H.lay (.row 3 true [int 0,int 1])).next 0 2 2,slc ((H.lay (.row 3 true [int 0,int 1])).lay (.row 3 true [int 0,int 1])).next 0 2 2])).at ((H.lay (.row 3 true [int 0,int 1])).lay (.row 3 true [int 0,int 1])).next = some (.row 3 true [int 1,int 0]):=Hp.at_lay_old _ (Hp.at_lay_self _ _)
 have b4:((((H.lay (.row 3 true [int 0,int 1])).lay (.row 3 true [int 0,int 1])).lay (.row 3 true [int 1,int 0])).lay (.row 22 true [slc (H.lay (.row 3 true [int 0,int 1])).next 0 2 2,slc ((H.lay (.row 3 true [int 0,int 1])).lay (.row 3 true [int 0,int 1])).next 0 2 2])).at (((H.lay (.row 3 true [int 0,int 1])).lay (.row 3 true [int 0,int 1])).lay (.row 3 true [int 1,int 0])).next = some (.row 22 true [slc (H.lay (.row 3 true [int 0,int 1])).next 0 2 2,slc ((H.lay (.row 3 true [int 0,int 1])).lay (.row 3 true [int 0,int 1])).next 0 2 2]):=Hp.at_lay_self _ _
 have aR4:=g4.at_ _ _ aR
 conv=>whnf
 refine SeqP.go ?_
 conv=>whnf
 refine ⟨rfl,_,storeAt_full (vs:=[int 2,slc H.next 0 2 2,slc (((H.lay (.row 3 true [int 0,int 1])).lay (.row 3 true [int 0,int 1])).lay (.row 3 true [int 1,int 0])).next 0 2 2]) aR4 rfl rfl rfl,?_⟩
 conv=>whnf
 obtain ⟨i25,t25,ag25,sz25⟩:=ty26
 refine leave_cell (r:=h.next) (o:=0) (cs:=[int 2,slc H.next 0 2 2,slc (((H.lay (.row 3 true [int 0,int 1])).lay (.row 3 true [int 0,int 1])).lay (.row 3 true [int 1,int 0])).next 0 2 2]) rfl t25 ag25 ?_ ?_
 ·rw [sz25]
  exact all_cells (Hp.at_set_self _ (Hp.lt_of_at aR4)) rfl
 ·refine ⟨⟨_,_,[slc (H.lay (.row 3 true [int 0,int 1])).next 0 2 2,slc ((H.lay (.row 3 true [int 0,int 1])).lay (.row 3 true [int 0,int 1])).next 0 2 2],rfl,⟨rfl,.inr ⟨H.next,rfl,by omega,true,by rw [Hp.at_set_ne _ (by omega)]; exact b1⟩⟩,⟨rfl,.inr ⟨_,rfl,by omega,true,by rw [Hp.at_set_ne _ (by omega)]; exact b4⟩⟩,rfl,fun k u l h1 h2=>?_⟩,(gH.trans g4).then_set _ (by omega)⟩
  match k,h1,h2 with
  | 0,h1,h2=>cases h1; cases h2; exact .inr ⟨_,rfl,by omega,true,by rw [Hp.at_set_ne _ (by omega)]; exact b2⟩
  | 1,h1,h2=>cases h1; cases h2; exact .inr ⟨_,rfl,by omega,true,by rw [Hp.at_set_ne _ (by omega)]; exact b3⟩
  | k + 2,h1,h2=>simp at h1
end
section
variable [Unknowns]
attribute [local irreducible] sameAt
theorem joined_spec (r:Nat) (x:Bool) (va vb:Value) (a b:List Int) (h:Hp) (hr:h.at r = some (.row 22 x [va,vb])) (ha:View h va a) (hb:View h vb b) (hla:a.length≤100) (hlb:b.length≤100):CallP E 84 [slc r 0 2 2] h (fun w h'=>Built h h' 3 w (a ++ b)∧Grows h h'):=by
 obtain ⟨aa,ca,rfl⟩:=ha.known
 obtain ⟨ab,cb,rfl⟩:=hb.known
 refine enter84 (by simp) ?_
 conv=>whnf
 refine SeqP.go ?_
 conv=>whnf
 refine SeqP.go ?_
 conv=>whnf
 refine SeqP.cut (α:=Value×Hp) (fun s=>[(3,s.1)]) (fun s H=>s.2 = H∧Grows h s.2∧Built h s.2 3 s.1 (a ++ b)) ?_ ?_
 rotate_left
 ·rintro ⟨w,H⟩ φ1 _ ⟨rfl,g1,hw⟩
  dsimp only at g1 hw ⊢
  have hws:=hw.c.slice
  obtain ⟨aw,rfl,-⟩:=hws
  conv=>whnf
  repeat (refine SeqP.go ?_; conv=>whnf)
  exact ⟨hw,g1⟩
 conv=>whnf
 refine SeqP.go ?_
 conv=>whnf
 refine loop_inv (α:=Nat×Value×Hp) (fun s=>[(8,int s.1),(7,int 2),(6,slc r 0 2 2),(3,s.2.1)]) (fun s=>s.2.2) (fun s=>Grows h s.2.2∧(s.1 = 0∧Built h s.2.2 3 s.2.1 []∨s.1 = 1∧Built h s.2.2 3 s.2.1 a∨s.1 = 2∧Built h s.2.2 3 s.2.1 (a ++ b))) (fun s=>2 - s.1) (0,nilS,h) ⟨.refl _,.inl ⟨rfl,.inl ⟨rfl,rfl⟩⟩⟩ ⟨rfl,rfl,rfl,rfl,trivial⟩ (Hp.Le.refl _) ?_
 rintro ⟨k,w,H⟩ φ1 ⟨g1,hcase⟩
 dsimp only at g1 hcase ⊢
 have hrH:=g1.at_ _ _ hr
 rcases hcase with ⟨rfl,hw⟩ | ⟨rfl,hw⟩ | ⟨rfl,hw⟩
 ·have c0:cellAt H r (offAt 0 0 1) = some (.slice aa a.length ca):=cell_row hrH rfl
  conv=>whnf
  repeat (refine SeqP.go ?_; conv=>whnf)
  refine cmpT (by omega) ?_
  conv=>whnf
  repeat (refine SeqP.go ?_; conv=>whnf)
  refine ⟨rfl,⟨by omega,by omega⟩,?_⟩
  conv=>whnf
  refine ⟨_,c0,?_⟩
  conv=>whnf
  repeat (refine SeqP.go ?_; conv=>whnf)
  refine AppP.ints hw g1 (ha.ext g1).elems (by simp; omega) ?_
  intro v' H' hb' hg' _
  conv=>whnf
  refine ⟨_,wid (by omega),?_⟩
  conv=>whnf
  exact Rnd.mk (1,v',H') ⟨hg',.inr (.inl ⟨rfl,by rw [List.nil_append] at hb'; exact hb'⟩)⟩ (by show 2 - 1 < 2 - 0; omega) ⟨rfl,rfl,rfl,rfl,trivial⟩ (Hp.Le.refl _) rfl
 ·have c0:cellAt H r (offAt 0 1 1) = some (.slice ab b.length cb):=cell_row hrH rfl
  conv=>whnf
  repeat (refine SeqP.go ?_; conv=>whnf)
  refine cmpT (by omega) ?_
  conv=>whnf
  repeat (refine SeqP.go ?_; conv=>whnf)
  refine ⟨rfl,⟨by omega,by omega⟩,?_⟩
  conv=>whnf
  refine ⟨_,c0,?_⟩
  conv=>whnf
  repeat (refine SeqP.go ?_; conv=>whnf)
  refine AppP.ints hw g1 (hb.ext g1).elems (by omega) ?_
  intro v' H' hb' hg' _
  conv=>whnf
  refine ⟨_,wid (by omega),?_⟩
  conv=>whnf
  exact Rnd.mk (2,v',H') ⟨hg',.inr (.inr ⟨rfl,hb'⟩)⟩ (by show 2 - 2 < 2 - 1; omega) ⟨rfl,rfl,rfl,rfl,trivial⟩ (Hp.Le.refl _) rfl
 ·conv=>whnf
  repeat (refine SeqP.go ?_; conv=>whnf)
  refine cmpF (by omega) ?_
  conv=>whnf
  exact ⟨(w,H),⟨rfl,trivial⟩,⟨rfl,g1,hw⟩,rfl⟩
theorem folded_spec (al:Option Addr) (L f n:Nat) (h:Hp) (hf:f < L) (hL:L≤100) (hn:n≤100000):CallP E 102 [rv al L f,int n] h (fun r h'=>r = int (foldN L f n:Nat)∧Grows h h'):=by
 have aX:(h.lay (.row 121 true [.slice al L L,int f])).at h.next = some (.row 121 true [.slice al L L,int f]):=Hp.at_lay_self _ _
 have c0:cellAt (h.lay (.row 121 true [.slice al L L,int f])) h.next 0 = some (.slice al L L):=cellAt_row aX rfl
 have c1:cellAt (h.lay (.row 121 true [.slice al L L,int f])) h.next 1 = some (int f):=cellAt_row aX rfl
 unfold rv
 refine enter102 (by simp) ?_
 conv=>whnf
 refine SeqP.go ?_
 conv=>whnf
 refine SeqP.go ?_
 conv=>whnf
 refine SeqP.go ?_
 conv=>whnf
 refine ⟨_,c1,?_⟩
 conv=>whnf
 by_cases hnf:n < f
 ·refine cmpT (by omega) ?_
  conv=>whnf
  repeat (refine SeqP.go ?_; conv=>whnf)
  refine ⟨?_,Grows.lay _ _⟩
  show int n = _
  unfold foldN
  rw [if_pos hnf]
 ·have em:=tmod_nat (n - f) (L - f)
  have hml:=Nat.mod_lt (n - f) (show L - f > 0 by omega)
  have hexr:∃ r,(n - f) % (L - f) = r:=⟨_,rfl⟩
  obtain ⟨r,er⟩:=hexr
  rw [er] at em hml
  refine cmpF (by omega) ?_
  conv=>whnf
  repeat (refine SeqP.go ?_; conv=>whnf)
  refine ⟨_,c1,?_⟩
  conv=>whnf
  refine ⟨_,c1,?_⟩
  conv=>whnf
  refine ⟨((n - f:Nat):Int),wie (by omega) (by omega),?_⟩
  conv=>whnf
  refine ⟨_,c0,?_⟩
  conv=>whnf
  refine ⟨_,c1,?_⟩
  conv=>whnf
  refine ⟨((L - f:Nat):Int),wie (by omega) (by omega),?_⟩
  conv=>whnf
  refine ⟨by omega,?_⟩
  conv=>whnf
  rw [em]
  refine ⟨((f + r:Nat):Int),wie (by omega) (by omega),?_⟩
  conv=>whnf
  repeat (refine SeqP.go ?_; conv=>whnf)
  refine ⟨?_,Grows.lay _ _⟩
  show int (f + r:Nat) = _
  unfold foldN
  rw [if_neg hnf,er]
end
end Go.Proofs.Ytedneplaibmppaa
namespace Go.Proofs.Ytedneplaibmppaa
open Go.Rx Go.RowKit
theorem span_nat {L:Nat} {p:Int×Int} (h:p ∈ sq L L):∃ s k:Nat,p = ((s:Int),(k:Int))∧s < L∧k < L:=by
 obtain ⟨a,b⟩:=p
 have:=sq_mem.1 h
 dsimp only at this
 exact ⟨a.toNat,b.toNat,by rw [Prod.mk.injEq]; omega,by omega,by omega⟩
attribute [local irreducible] E idxN cellAt cellsAt storeAt callable helems hmoved lookIn findKey keyOk hentries Hp.at Hp.set Hp.lay arBits hupdated setAt CallP YieldP BoolOf IsWrap Rnd LoopP AppP CutP Int.tmod Int.tdiv Int.fdiv
section
variable [Unknowns]
attribute [local irreducible] sameAt finP
theorem ring1_spec (p:Int×Int) (Rg:Nat) (al:Option Addr) (l:List Int) (f:Nat) (H:Hp) (hp:p ∈ sq l.length l.length) (aR:H.at Rg = some (.row 121 true [.slice al l.length l.length,int f])) (hl:View H (.slice al l.length l.length) l):CallP E 100 [encP p,ptr Rg 0] H (fun r H'=>r = int (outR l p)∧Grows H H'):=by
 obtain ⟨s,k,rfl,hs,hk⟩:=span_nat hp
 have aP:(H.lay (.row 147 true [int s,int k])).at H.next = some (.row 147 true [int s,int k]):=Hp.at_lay_self _ _
 have g1:Grows H (H.lay (.row 147 true [int s,int k])):=Grows.lay _ _
 have aR1:=g1.at_ _ _ aR
 have hc:=View.cellg (hl.ext g1) hk
 obtain ⟨r,o,sp,rfl,hsp,-,hc⟩:=hc
 unfold encP
 refine enter100 (by simp) ?_
 conv=>whnf
 refine SeqP.go ?_
 conv=>whnf
 refine SeqP.go ?_
 conv=>whnf
 refine ⟨_,cellAt_row aR1 rfl,?_⟩
 conv=>whnf
 refine ⟨_,cellAt_row aP rfl,?_⟩
 conv=>whnf
 refine ⟨hsp,⟨by omega,by omega⟩,?_⟩
 conv=>whnf
 refine ⟨_,hc,?_⟩
 conv=>whnf
 exact finP_one rfl rfl ⟨by unfold outR; rw [Int.toNat_natCast]; rfl,g1⟩
theorem ring2_spec (p:Int×Int) (d:Nat) (Rg B:Nat) (al:Option Addr) (L f b:Nat) (H:Hp) (hp:p ∈ sq L L) (hf:f < L) (hL:L≤100) (hb:b≤10) (hd:d < b) (aR:H.at Rg = some (.row 121 true [.slice al L L,int f])) (aB:cellAt H B 0 = some (int b)):CallP E 101 [encP p,int d,ptr Rg 0,ptr B 0] H (fun r H'=>r = encP (nextR L f b p d)∧Grows H H'):=by
 obtain ⟨s,k,rfl,hs,hk⟩:=span_nat hp
 have n1:(H.lay (.row 147 true [int s,int k])).next = H.next + 1:=Hp.next_lay _ _
 have enx:nextR L f b ((s:Int),(k:Int)) d = (((foldN L f (s * b):Nat):Int),((foldN L f (k + s * d):Nat):Int)):=by
  unfold nextR
  rw [Int.toNat_natCast,Int.toNat_natCast]
 rw [enx]
 have m1:s * b≤100 * 10:=Nat.mul_le_mul (by omega) hb
 have m2:s * d≤100 * 10:=Nat.mul_le_mul (by omega) (by omega)
 have e1:(s:Int) * (b:Int) = ((s * b:Nat):Int):=by rw [Int.natCast_mul]
 have e2:(s:Int) * (d:Int) = ((s * d:Nat):Int):=by rw [Int.natCast_mul]
 have hexu:∃ u,s * b = u:=⟨_,rfl⟩
 obtain ⟨u,eu⟩:=hexu
 have hexv:∃ v,s * d = v:=⟨_,rfl⟩
 obtain ⟨v,ev⟩:=hexv
 rw [eu] at m1 e1 ⊢
 rw [ev] at m2 e2 ⊢
 unfold encP
 refine enter101 (by simp) ?_
 conv=>whnf
 refine SeqP.cut (α:=Hp) (fun _=>[(4,ptr H.next 0),(6,ptr (H.next + 1) 0),(1,int d),(2,ptr Rg 0),(3,ptr B 0)]) (fun x H2=>x = H2∧Grows H x∧x.at H.next = some (.row 147 true [int s,int k])∧x.at (H.next + 1) = some (.row 147 true [int 0,int 0])) ?_ ?_
 ·conv=>whnf
  exact ⟨_,⟨rfl,congrArg (fun k=>ptr k 0) n1,rfl,rfl,rfl,trivial⟩,⟨rfl,(Grows.lay _ _).then_lay _,Hp.at_lay_old _ (Hp.at_lay_self _ _),at_nx2 n1 (Hp.at_lay_self _ _)⟩,rfl⟩
 rintro H2 φ1 _ ⟨rfl,g2,aP,aO⟩
 have cR:=all_cells (g2.at_ _ _ aR) (show [Value.slice al L L,int f].length = 2 from rfl)
 have cB:=g2.cell aB
 have p0:cellAt H2 H.next 0 = some (int s):=cellAt_row aP rfl
 have p1:cellAt H2 H.next 1 = some (int k):=cellAt_row aP rfl
 have hsr:=sameV_ring al L L f
 conv=>whnf
 refine SeqP.go ?_
 conv=>whnf
 refine ⟨_,cR,?_⟩
 conv=>whnf
 refine ⟨_,p0,?_⟩
 conv=>whnf
 refine ⟨_,cB,?_⟩
 conv=>whnf
 refine ⟨(u:Int),wie e1 (by omega),?_⟩
 conv=>whnf
 refine CallP.mono (folded_spec al L f u _ hf hL (by omega)) ?_
 rintro _ H3 ⟨rfl,g3⟩
 have cR3:=g3.cells cR
 have p03:=g3.cell p0
 have p13:=g3.cell p1
 conv=>whnf
 refine ⟨_,cR3,?_⟩
 conv=>whnf
 refine ⟨_,p13,?_⟩
 conv=>whnf
 refine ⟨_,p03,?_⟩
 conv=>whnf
 refine ⟨(v:Int),wie e2 (by omega),?_⟩
 conv=>whnf
 refine ⟨((k + v:Nat):Int),wie (by omega) (by omega),?_⟩
 conv=>whnf
 refine CallP.mono (folded_spec al L f (k + v) _ hf hL (by omega)) ?_
 rintro _ H4 ⟨rfl,g4⟩
 have cR4:=g4.cells cR3
 have p04:=g4.cell p03
 have p14:=g4.cell p13
 have aO4:=g4.at_ _ _ (g3.at_ _ _ aO)
 conv=>whnf
 refine ⟨rfl,_,storeAt_full (vs:=[int (foldN L f u:Nat),int (foldN L f (k + v):Nat)]) aO4 rfl rfl rfl,?_⟩
 have cR5:cellsAt (H4.set (H.next + 1) (.row 147 true [int (foldN L f u:Nat),int (foldN L f (k + v):Nat)])) Rg 0 2 = some [.slice al L L,int f]:=by
  refine all_cells (e:=121) (x:=true) ?_ rfl
  have:=Hp.lt_of_at aR
  rw [Hp.at_set_ne _ (by omega)]
  exact g4.at_ _ _ (g3.at_ _ _ (g2.at_ _ _ aR))
 have p05:cellAt (H4.set (H.next + 1) (.row 147 true [int (foldN L f u:Nat),int (foldN L f (k + v):Nat)])) H.next 0 = some (int s):=cellAt_row (by rw [Hp.at_set_ne _ (by omega)]; exact g4.at_ _ _ (g3.at_ _ _ aP)) rfl
 have p15:cellAt (H4.set (H.next + 1) (.row 147 true [int (foldN L f u:Nat),int (foldN L f (k + v):Nat)])) H.next 1 = some (int k):=cellAt_row (by rw [Hp.at_set_ne _ (by omega)]; exact g4.at_ _ _ (g3.at_ _ _ aP)) rfl
 conv=>whnf
 refine ⟨?_,?_⟩
 ·repeat' (first | exact True.intro | (refine And.intro ?_ ?_ <;> (conv=>whnf)))
  all_goals first
   | exact sameAt_val (h2:=_) rfl (sameV_int _)
   | exact sameAt_val (h2:=_) rfl (sameV_ptr _ _)
   | exact sameAt_val (h2:=_) (congrArg (fun x=>hval _ (aggOf x)) cR) hsr
   | exact sameAt_val (h2:=_) (congrArg (fun x=>hval _ (aggOf x)) cR3) hsr
   | exact sameAt_val (h2:=_) (congrArg (fun x=>hval _ (aggOf x)) cR4) hsr
   | exact sameAt_val (h2:=_) (congrArg (fun x=>hval _ (aggOf x)) cR5) hsr
   | exact sameAt_val (h2:=_) (congrArg (hval _) p0) (sameV_int _)
   | exact sameAt_val (h2:=_) (congrArg (hval _) p1) (sameV_int _)
   | exact sameAt_val (h2:=_) (congrArg (hval _) p03) (sameV_int _)
   | exact sameAt_val (h2:=_) (congrArg (hval _) p13) (sameV_int _)
   | exact sameAt_val (h2:=_) (congrArg (hval _) p04) (sameV_int _)
   | exact sameAt_val (h2:=_) (congrArg (hval _) p14) (sameV_int _)
   | exact sameAt_val (h2:=_) (congrArg (hval _) p05) (sameV_int _)
   | exact sameAt_val (h2:=_) (congrArg (hval _) p15) (sameV_int _)
   | exact sameAt_val (h2:=_) (show hval _ (arK .i64 .add _ _) = _ from add_val (by omega) (by omega)) (sameV_int _)
   | exact sameAt_val (h2:=_) (show hval _ (arK .i64 .mul _ _) = _ from mul_val e2 (by omega)) (sameV_int _)
   | trace_state
 have hs:(tiOf Try.prog 147).isSome = true:=by kernel_rfl
 conv=>whnf
 refine leave_cell (i:=(tiOf Try.prog 147).get hs) (r:=H.next + 1) (o:=0) (cs:=[int (foldN L f u:Nat),int (foldN L f (k + v):Nat)]) rfl (ty_get (by kernel_rfl) (Option.some_get hs).symm) (by kernel_rfl) ?_ ?_
 ·rw [show ((tiOf Try.prog 147).get hs).size = 2 from by kernel_rfl]
  exact all_cells (Hp.at_set_self _ (Hp.lt_of_at aO4)) rfl
 ·exact ⟨rfl,((g2.trans g3).trans g4).then_set _ (by omega)⟩
theorem ringM_spec (al:Option Addr) (l:List Int) (f b:Nat) (h:Hp) (hf:f < l.length) (hL:l.length≤100) (hb:1≤b∧b≤10) (hl:View h (.slice al l.length l.length) l):CallP E 85 [rv al l.length f,int b] h (fun r h'=>OwnM h h' r (ringM b l f).i∧Grows h h'):=by
 unfold rv
 refine enter85 (by simp) ?_
 conv=>whnf
 refine SeqP.cut (α:=Hp) (fun _=>[(2,ptr h.next 0),(3,ptr (h.next + 1) 0),(4,ptr (h.next + 2) 0)]) (fun x H=>x = H∧Grows h x∧x.at h.next = some (.row 121 true [.slice al l.length l.length,int f])∧x.at (h.next + 1) = some (.row 3 true [int b])∧x.at (h.next + 2) = some (.row 25 true [int 0,nilS,nilS])) ?_ ?_
 ·conv=>whnf
  have n1:(h.lay (.row 121 true [.slice al l.length l.length,int f])).next = h.next + 1:=Hp.next_lay _ _
  have n2:((h.lay (.row 121 true [.slice al l.length l.length,int f])).lay (.row 3 true [int b])).next = h.next + 2:=by rw [Hp.next_lay,n1]
  exact ⟨_,⟨rfl,congrArg (fun k=>ptr k 0) n1,congrArg (fun k=>ptr k 0) n2,trivial⟩,⟨rfl,((Grows.lay _ _).then_lay _).then_lay _,Hp.at_lay_old _ (Hp.at_lay_old _ (Hp.at_lay_self _ _)),Hp.at_lay_old _ (at_nx2 n1 (Hp.at_lay_self _ _)),at_nx2 n2 (Hp.at_lay_self _ _)⟩,rfl⟩
 rintro H φ1 _ ⟨rfl,gH,aG,aB,aO⟩
 have cB:cellAt H (h.next + 1) 0 = some (int b):=cellAt_row aB rfl
 have cG:=all_cells aG (show [Value.slice al l.length l.length,int f].length = 2 from rfl)
 have hsr:=sameV_ring al l.length l.length f
 have hl2:l.length * l.length≤100 * 100:=Nat.mul_le_mul hL hL
 conv=>whnf
 refine SeqP.go ?_
 conv=>whnf
 refine SeqP.go ?_
 conv=>whnf
 refine SeqP.go ?_
 conv=>whnf
 refine ⟨_,cB,?_⟩
 conv=>whnf
 refine ⟨_,cG,?_⟩
 conv=>whnf
 refine CallP.mono (folded_spec al l.length f 1 _ hf hL (by omega)) ?_
 rintro _ H2 ⟨rfl,g2⟩
 have cB2:=g2.cell cB
 have cG2:=g2.cells cG
 have aG2:=g2.at_ _ _ aG
 have aO2:=g2.at_ _ _ aO
 have gh2:=gH.trans g2
 have ho:OutF 100 [ptr h.next 0] encP (outR l) (sq l.length l.length) H2:=⟨can100,fun p hp H5 g5=>ring1_spec p h.next al l f H5 hp (g5.at_ _ _ aG2) (hl.ext (gh2.trans g5))⟩
 have hn:NextF 101 [ptr h.next 0,ptr (h.next + 1) 0] encP (nextR l.length f b) b (sq l.length l.length) H2:=⟨can101,fun p hp d hd H5 g5=>ring2_spec p d h.next (h.next + 1) al l.length f b H5 hp hf hL hb.2 hd (g5.at_ _ _ aG2) (g5.cell cB2)⟩
 have hbt:=built103_spec b (((foldN l.length f 1:Nat):Int),(0:Int)) (outR l) (nextR l.length f b) (sq l.length l.length) 100 101 _ _ H2 ⟨hb.1,by omega⟩ (ring_fin hf) (ring_mem hf) (by rw [sq_len]; omega) ho hn
 conv=>whnf
 refine CallP.mono hbt ?_
 rintro w5 H5 ⟨hown,g5⟩
 have hexm:∃ m',built b (((foldN l.length f 1:Nat):Int),(0:Int)) (outR l) (nextR l.length f b) = m':=⟨_,rfl⟩
 obtain ⟨m',em⟩:=hexm
 rw [em] at hown
 have em':ringM b l f = m':=em
 rw [em']
 have hk5:=hown.known
 obtain ⟨a5,b5,rfl⟩:=hk5
 have aO5:=g5.at_ _ _ aO2
 have cB5:=g5.cell cB2
 have cG5:=g5.cells cG2
 conv=>whnf
 refine ⟨rfl,_,storeAt_full (vs:=[int m'.i.base,.slice a5 m'.i.out.length m'.i.out.length,.slice b5 m'.i.next.length m'.i.next.length]) aO5 rfl rfl rfl,?_⟩
 have cB6:∀ o,cellAt (H5.set (h.next + 2) o) (h.next + 1) 0 = some (int b):=fun o=>cellAt_row (by rw [Hp.at_set_ne _ (by omega)]; exact g5.at_ _ _ (g2.at_ _ _ aB)) rfl
 have cG6:∀ o,cellsAt (H5.set (h.next + 2) o) h.next 0 2 = some [.slice al l.length l.length,int f]:=fun o=>all_cells (e:=121) (x:=true) (by rw [Hp.at_set_ne _ (by omega)]; exact g5.at_ _ _ aG2) rfl
 conv=>whnf
 refine ⟨?_,?_⟩
 ·repeat' (first | exact True.intro | (refine And.intro ?_ ?_ <;> (conv=>whnf)))
  all_goals first
   | exact sameAt_val (h2:=_) rfl (sameV_int _)
   | exact sameAt_val (h2:=_) rfl (sameV_ptr _ _)
   | exact sameAt_val (h2:=_) rfl (sameV_fun1 _ _ _)
   | exact sameAt_val (h2:=_) rfl (sameV_fun2 _ _ _ _ _)
   | exact sameAt_val (h2:=_) rfl (sameV_agg2 _ _)
   | exact sameAt_val (h2:=_) (congrArg (fun x=>hval _ (aggOf x)) cG) hsr
   | exact sameAt_val (h2:=_) (congrArg (fun x=>hval _ (aggOf x)) cG2) hsr
   | exact sameAt_val (h2:=_) (congrArg (fun x=>hval _ (aggOf x)) cG5) hsr
   | exact sameAt_val (h2:=_) (congrArg (fun x=>hval _ (aggOf x)) (cG6 _)) hsr
   | exact sameAt_val (h2:=_) (congrArg (hval _) cB) (sameV_int _)
   | exact sameAt_val (h2:=_) (congrArg (hval _) cB2) (sameV_int _)
   | exact sameAt_val (h2:=_) (congrArg (hval _) cB5) (sameV_int _)
   | exact sameAt_val (h2:=_) (congrArg (hval _) (cB6 _)) (sameV_int _)
   | trace_state
 conv=>whnf
 obtain ⟨i25,t25,ag25,sz25⟩:=ty25
 refine leave_cell (r:=h.next + 2) (o:=0) (cs:=[int m'.i.base,.slice a5 m'.i.out.length m'.i.out.length,.slice b5 m'.i.next.length m'.i.next.length]) rfl t25 ag25 ?_ ?_
 ·rw [sz25]
  exact all_cells (Hp.at_set_self _ (Hp.lt_of_at aO5)) rfl
 ·exact ⟨(hown.put (Hp.lt_of_at aO2) _).back gh2.next,(gh2.trans g5).then_set _ (by omega)⟩
end
end Go.Proofs.Ytedneplaibmppaa
namespace Go.Proofs.Ytedneplaibmppaa
open Go.Rx Go.RowKit
attribute [local irreducible] E idxN cellAt cellsAt storeAt callable helems hmoved lookIn findKey keyOk hentries Hp.at Hp.set Hp.lay arBits hupdated setAt CallP YieldP BoolOf IsWrap Rnd LoopP AppP CutP Int.tmod Int.tdiv Int.fdiv
section
variable [Unknowns]
attribute [local irreducible] sameAt finP
theorem Round_spec (base:Int) (va vb:Value) (a b:List Int) (h:Hp) (ha:View h va a) (hb:View h vb b) (hla:a.length≤1000000) (hlb:b.length≤1000000):CallP E 50 [int base,va,vb] h (fun r h'=>((BadR base a b→r = .tuple ⟨[noM,int 1]⟩)∧(¬ BadR base a b→FitR h h' r (ringM base.toNat (a ++ b) a.length)))∧Grows h h'):=by
 obtain ⟨aa,ca,rfl⟩:=ha.known
 obtain ⟨ab,cb,rfl⟩:=hb.known
 obtain ⟨i25,t25,ag25,sz25⟩:=ty25
 refine enter50 (by simp) ?_
 conv=>whnf
 refine SeqP.cut (α:=Hp) (fun _=>[(6,ptr h.next 0),(0,int base),(1,.slice aa a.length ca),(2,.slice ab b.length cb)]) (fun x H=>x = H∧Grows h H∧H.at h.next = some (.row 25 true [int 0,nilS,nilS])) ?_ ?_
 ·conv=>whnf
  exact ⟨_,⟨rfl,rfl,rfl,rfl,trivial⟩,⟨rfl,Grows.lay _ _,Hp.at_lay_self _ _⟩,rfl⟩
 rintro H φ1 _ ⟨rfl,gH,aR⟩
 have bad:BadR base a b→∀ H,Grows h H→(((BadR base a b→Value.tuple ⟨[noM,int 1]⟩ = .tuple ⟨[noM,int 1]⟩)∧(¬ BadR base a b→FitR h H (.tuple ⟨[noM,int 1]⟩) (ringM base.toNat (a ++ b) a.length)))∧Grows h H):=fun k H g=>⟨⟨fun _=>rfl,fun q=>absurd k q⟩,g⟩
 have hltR:=Hp.lt_of_at aR
 have hRg:=Hp.at_set_self (.row 25 true [int 0,nilS,nilS]) hltR
 have gRg:Grows h (H.set h.next (.row 25 true [int 0,nilS,nilS])):=gH.then_set _ (Nat.le_refl _)
 conv=>whnf
 refine SeqP.cut (α:=Unit) (fun _=>[(6,ptr h.next 0),(0,int base),(1,.slice aa a.length ca),(2,.slice ab b.length cb)]) (fun _ H3=>H = H3∧2≤base∧base≤5∧a.length≤20∧1≤b.length∧b.length≤20) ?_ ?_
 ·conv=>whnf
  refine SeqP.go ?_
  conv=>whnf
  refine cmpB (fun q1=>?_) (fun q1=>?_)
  ·skip
   conv=>whnf
   refine SeqP.go ?_
   conv=>whnf
   refine ⟨rfl,_,storeAt_full (vs:=[int 0,nilS,nilS]) aR rfl rfl rfl,?_⟩
   conv=>whnf
   exact leave_cell2 (r:=h.next) (o:=0) (cs:=[int 0,nilS,nilS]) (w:=int 1) rfl rfl rfl t25 ag25 (by rw [sz25]; exact all_cells hRg rfl) (bad (.inl q1) _ gRg)
  conv=>whnf
  refine cmpB (fun q2=>?_) (fun q2=>?_)
  ·skip
   conv=>whnf
   refine SeqP.go ?_
   conv=>whnf
   refine ⟨rfl,_,storeAt_full (vs:=[int 0,nilS,nilS]) aR rfl rfl rfl,?_⟩
   conv=>whnf
   exact leave_cell2 (r:=h.next) (o:=0) (cs:=[int 0,nilS,nilS]) (w:=int 1) rfl rfl rfl t25 ag25 (by rw [sz25]; exact all_cells hRg rfl) (bad (.inr (.inl q2)) _ gRg)
  conv=>whnf
  refine cmpB (fun q3=>?_) (fun q3=>?_)
  ·skip
   conv=>whnf
   refine SeqP.go ?_
   conv=>whnf
   refine ⟨rfl,_,storeAt_full (vs:=[int 0,nilS,nilS]) aR rfl rfl rfl,?_⟩
   conv=>whnf
   exact leave_cell2 (r:=h.next) (o:=0) (cs:=[int 0,nilS,nilS]) (w:=int 1) rfl rfl rfl t25 ag25 (by rw [sz25]; exact all_cells hRg rfl) (bad (.inr (.inr (.inl (by omega)))) _ gRg)
  conv=>whnf
  refine cmpB (fun q4=>?_) (fun q4=>?_)
  ·skip
   conv=>whnf
   refine SeqP.go ?_
   conv=>whnf
   refine ⟨rfl,_,storeAt_full (vs:=[int 0,nilS,nilS]) aR rfl rfl rfl,?_⟩
   conv=>whnf
   exact leave_cell2 (r:=h.next) (o:=0) (cs:=[int 0,nilS,nilS]) (w:=int 1) rfl rfl rfl t25 ag25 (by rw [sz25]; exact all_cells hRg rfl) (bad (.inr (.inr (.inr (.inl (by omega))))) _ gRg)
  conv=>whnf
  refine cmpB (fun q5=>?_) (fun q5=>?_)
  ·skip
   conv=>whnf
   refine SeqP.go ?_
   conv=>whnf
   refine ⟨rfl,_,storeAt_full (vs:=[int 0,nilS,nilS]) aR rfl rfl rfl,?_⟩
   conv=>whnf
   exact leave_cell2 (r:=h.next) (o:=0) (cs:=[int 0,nilS,nilS]) (w:=int 1) rfl rfl rfl t25 ag25 (by rw [sz25]; exact all_cells hRg rfl) (bad (.inr (.inr (.inr (.inr (.inl (by omega)))))) _ gRg)
  conv=>whnf
  exact ⟨(),⟨rfl,rfl,rfl,rfl,trivial⟩,⟨rfl,by omega,by omega,by omega,by omega,by omega⟩,rfl⟩
 rintro _ φ2 _ ⟨rfl,hb2,hb5,hal,hbl1,hbl⟩
 conv=>whnf
 refine SeqP.cut (α:=Unit) (fun _=>[(6,ptr h.next 0),(0,int base),(1,.slice aa a.length ca),(2,.slice ab b.length cb)]) (fun _ H3=>H = H3∧(∀ x ∈ a,0≤x∧x≤9)∧∀ x ∈ b,0≤x∧x≤9) ?_ ?_
 ·conv=>whnf
  refine SeqP.go ?_
  conv=>whnf
  refine CallP.mono (areOuts_spec _ a _ (ha.ext gH) hla) ?_
  rintro r _ ⟨⟨x,rfl,hx⟩,rfl⟩
  cases x with
  | false =>
   conv=>whnf
   refine SeqP.go ?_
   conv=>whnf
   refine ⟨rfl,_,storeAt_full (vs:=[int 0,nilS,nilS]) aR rfl rfl rfl,?_⟩
   conv=>whnf
   exact leave_cell2 (r:=h.next) (o:=0) (cs:=[int 0,nilS,nilS]) (w:=int 1) rfl rfl rfl t25 ag25 (by rw [sz25]; exact all_cells hRg rfl) (bad (.inr (.inr (.inr (.inr (.inr (.inl hx.f)))))) _ gRg)
  | true =>
   have hx1:=hx.t
   conv=>whnf
   refine CallP.mono (areOuts_spec _ b _ (hb.ext gH) hlb) ?_
   rintro r _ ⟨⟨y,rfl,hy⟩,rfl⟩
   cases y with
   | false =>
    conv=>whnf
    refine SeqP.go ?_
    conv=>whnf
    refine ⟨rfl,_,storeAt_full (vs:=[int 0,nilS,nilS]) aR rfl rfl rfl,?_⟩
    conv=>whnf
    exact leave_cell2 (r:=h.next) (o:=0) (cs:=[int 0,nilS,nilS]) (w:=int 1) rfl rfl rfl t25 ag25 (by rw [sz25]; exact all_cells hRg rfl) (bad (.inr (.inr (.inr (.inr (.inr (.inr hy.f)))))) _ gRg)
   | true =>
    have hy1:=hy.t
    conv=>whnf
    exact ⟨(),⟨rfl,rfl,rfl,rfl,trivial⟩,⟨rfl,hx1,hy1⟩,rfl⟩
 rintro _ φ3 _ ⟨rfl,hx1,hy1⟩
 have hnb:¬ BadR base a b:=fun k=>by
  unfold BadR at k
  rcases k with k | k | k | k | k | k | k
  ·omega
  ·omega
  ·omega
  ·omega
  ·omega
  ·exact k hx1
  ·exact k hy1
 have hexk:∃ k:Nat,base = k:=⟨base.toNat,by omega⟩
 obtain ⟨k,rfl⟩:=hexk
 rw [Int.toNat_natCast]
 have hlen:(a ++ b).length = a.length + b.length:=List.length_append
 have hf:a.length < (a ++ b).length:=by omega
 have hro:=ring_ok (b:=k) (by omega) hf
 have hmul:(a ++ b).length * (a ++ b).length≤40 * 40:=Nat.mul_le_mul (by omega) (by omega)
 conv=>whnf
 refine SeqP.cut (α:=Option Addr×Nat×Hp) (fun s=>[(8,ptr s.2.1 0),(6,ptr h.next 0),(0,int k)]) (fun s H4=>s.2.2 = H4∧Grows H s.2.2∧s.2.2.at s.2.1 = some (.row 121 true [.slice s.1 (a ++ b).length (a ++ b).length,int a.length])∧View s.2.2 (.slice s.1 (a ++ b).length (a ++ b).length) (a ++ b)) ?_ ?_
 ·conv=>whnf
  have gl1:Grows H (H.lay (.row 22 true [.slice aa a.length ca,.slice ab b.length cb])):=Grows.lay _ _
  refine CallP.mono (joined_spec H.next true _ _ a b _ (Hp.at_lay_self _ _) (ha.ext (gH.trans gl1)) (hb.ext (gH.trans gl1)) (by omega) (by omega)) ?_
  rintro w H4 ⟨hw,g4⟩
  have hws:=hw.c.slice
  obtain ⟨aw,rfl,-⟩:=hws
  conv=>whnf
  refine ⟨rfl,_,storeAt_all (vs:=[.slice aw (a ++ b).length (a ++ b).length,int a.length]) rfl rfl rfl,?_⟩
  conv=>whnf
  exact ⟨(aw,H4.next,_),⟨rfl,rfl,rfl,trivial⟩,⟨rfl,(gl1.trans g4).then_lay _,Hp.at_lay_self _ _,(hw.view).ext (Grows.lay _ _)⟩,rfl⟩
 rintro ⟨aw,G,H4⟩ φ4 _ ⟨rfl,g4,aG,hvw⟩
 dsimp only at g4 aG hvw ⊢
 have gh4:=gH.trans g4
 have aR4:=g4.at_ _ _ aR
 conv=>whnf
 refine SeqP.go ?_
 conv=>whnf
 refine ⟨_,all_cells aG rfl,?_⟩
 conv=>whnf
 refine CallP.mono (ringM_spec aw (a ++ b) a.length k _ hf (by omega) (by omega) hvw) ?_
 rintro w H5 ⟨hw,g5⟩
 conv=>whnf
 refine CallP.mono (fitted_spec _ (ringM k (a ++ b) a.length) _ hw.mv hro.1 (by omega) (by show k≤1000; omega)) ?_
 rintro r H6 ⟨hr,g6⟩
 have hrk:=hr.known
 obtain ⟨a4,b4,c4,e4,rfl,o1,o2,o3⟩:=hrk
 have aR6:=g6.at_ _ _ (g5.at_ _ _ aR4)
 conv=>whnf
 refine ⟨rfl,_,storeAt_full (vs:=[a4,b4,c4]) aR6 rfl (one3 o1 o2 o3) rfl,?_⟩
 conv=>whnf
 refine leave_cell2 (r:=h.next) (o:=0) (cs:=[a4,b4,c4]) (w:=int e4) rfl rfl rfl t25 ag25 ?_ ?_
 ·rw [sz25]
  exact all_cells (Hp.at_set_self _ (Hp.lt_of_at aR6)) rfl
 ·have hlt4:=Hp.lt_of_at aR4
  exact ⟨⟨fun q=>absurd q hnb,fun _=>(hr.put (by have:=g5.next; omega) _).back (by have:=g5.next; have:=gh4.next; omega)⟩,((gh4.trans g5).trans g6).then_set _ (Nat.le_refl _)⟩
end
end Go.Proofs.Ytedneplaibmppaa
namespace Go.Proofs.Ytedneplaibmppaa
open Go.Rx
namespace Mac
def longF (m:Mac) (ls:List Int) (s:Nat):Nat→Int
 | 0=>-1
 | d + 1=>if gl ls (m.nx s d) < 0 then longF m ls s d else if longF m ls s d < 0∨gl ls (m.nx s d) * m.base + d < longF m ls s d then gl ls (m.nx s d) * m.base + d else longF m ls s d
def evK (m:Mac) (out:Int):Nat→List Int
 | 0=>m.out.map fun o=>if o = out then 0 else -1
 | k + 1=>(List.range m.out.length).map fun s=>m.longF (evK m out k) s m.base
def Lst (m:Mac) (out:Int) (P:List Nat→Prop) (v:Int):Prop:=(v = -1∧∀ w,¬ P w)∨∃ w,P w∧v = val m.base w∧∀ w',P w'→val m.base w≤val m.base w'
def Wk (m:Mac) (out:Int) (s k:Nat) (w:List Nat):Prop:=Wd m.base w∧w.length = k∧m.o (m.run s w) = out
theorem evK_len (m:Mac) (out:Int):∀ k,(m.evK out k).length = m.out.length
 | 0=>by simp [evK]
 | k + 1=>by simp [evK]
theorem evK_gl {m:Mac} {out:Int} {k s:Nat} (hs:s < m.out.length):gl (m.evK out (k + 1)) s = m.longF (m.evK out k) s m.base:=by
 rw [gl_at (by rw [evK_len]; exact hs)]
 simp [evK]
theorem long_ok {m:Mac} {out:Int} {k s:Nat} (hm:m.Ok) (hs:s < m.out.length) (ih:∀ t,t < m.out.length→m.Lst out (m.Wk out t k) (gl (m.evK out k) t)):∀ d,d≤m.base→m.Lst out (fun w=>m.Wk out s (k + 1) w∧∃ c v,w = c :: v∧c < d) (m.longF (m.evK out k) s d)
 | 0,_=>.inl ⟨rfl,fun w ⟨_,c,v,_,h⟩=>Nat.not_lt_zero _ h⟩
 | d + 1,hd=>by
  have ihd:=long_ok hm hs ih d (by omega)
  have hn:=hm.lt s d hs (by omega)
  have iht:=ih _ hn
  unfold longF
  have split_:∀ w,(m.Wk out s (k + 1) w∧∃ c v,w = c :: v∧c < d + 1)→(m.Wk out s (k + 1) w∧∃ c v,w = c :: v∧c < d)∨∃ v,w = d :: v∧m.Wk out (m.nx s d) k v:=by
   rintro w ⟨⟨h1,h2,h3⟩,c,v,rfl,hc⟩
   by_cases e:c = d
   ·subst e
    exact .inr ⟨v,rfl,fun x hx=>h1 x (by simp [hx]),by simpa using h2,h3⟩
   ·exact .inl ⟨⟨h1,h2,h3⟩,c,v,rfl,by omega⟩
  have up:∀ v,m.Wk out (m.nx s d) k v→m.Wk out s (k + 1) (d :: v):=fun v ⟨h1,h2,h3⟩=>⟨Wd.cons (by omega) h1,by simp [h2],h3⟩
  rcases iht with ⟨e1,hno⟩ | ⟨v,hv,e1,hmin⟩
  ·rw [if_pos (by rw [e1]; omega)]
   rcases ihd with ⟨e2,hno2⟩ | ⟨w,⟨hw,c,u,ew,hc⟩,e2,hmin2⟩
   ·refine .inl ⟨e2,fun w h=>?_⟩
    rcases split_ w h with h2 | ⟨v,rfl,h2⟩
    ·exact hno2 w h2
    ·exact hno v h2
   ·refine .inr ⟨w,⟨hw,c,u,ew,by omega⟩,e2,fun w' h=>?_⟩
    rcases split_ w' h with h2 | ⟨v,rfl,h2⟩
    ·exact hmin2 w' h2
    ·exact (hno v h2).elim
  ·have ev:gl (m.evK out k) (m.nx s d) * (m.base:Int) + d = (val m.base (d :: v):Nat):=by
    rw [e1]
    show _ = ((d + m.base * val m.base v:Nat):Int)
    rw [Int.natCast_add,Int.natCast_mul,Int.mul_comm]
    omega
   rw [if_neg (by rw [e1]; omega),ev]
   have hcons:∀ v',m.Wk out (m.nx s d) k v'→val m.base (d :: v)≤val m.base (d :: v'):=fun v' h=>by
    show d + m.base * val m.base v≤d + m.base * val m.base v'
    have:=Nat.mul_le_mul_left m.base (hmin v' h)
    omega
   rcases ihd with ⟨e2,hno2⟩ | ⟨w,⟨hw,c,u,ew,hc⟩,e2,hmin2⟩
   ·rw [if_pos (.inl (by rw [e2]; omega))]
    refine .inr ⟨d :: v,⟨up v hv,d,v,rfl,by omega⟩,rfl,fun w' h=>?_⟩
    rcases split_ w' h with h2 | ⟨v',rfl,h2⟩
    ·exact (hno2 w' h2).elim
    ·exact hcons v' h2
   ·rw [e2]
    by_cases hlt:((val m.base (d :: v):Nat):Int) < (val m.base w:Nat)
    ·rw [if_pos (.inr hlt)]
     refine .inr ⟨d :: v,⟨up v hv,d,v,rfl,by omega⟩,rfl,fun w' h=>?_⟩
     rcases split_ w' h with h2 | ⟨v',rfl,h2⟩
     ·have:=hmin2 w' h2; omega
     ·exact hcons v' h2
    ·rw [if_neg (by omega)]
     refine .inr ⟨w,⟨hw,c,u,ew,by omega⟩,rfl,fun w' h=>?_⟩
     rcases split_ w' h with h2 | ⟨v',rfl,h2⟩
     ·exact hmin2 w' h2
     ·have:=hcons v' h2; omega
theorem evK_ok {m:Mac} (hm:m.Ok) (out:Int):∀ (k s:Nat),s < m.out.length→m.Lst out (m.Wk out s k) (gl (m.evK out k) s)
 | 0,s,hs=>by
  have e:gl (m.evK out 0) s = if m.o s = out then 0 else -1:=by
   rw [gl_at (by rw [evK_len]; exact hs)]
   have e2:m.o s = m.out[s]:=gl_at hs
   simp [evK,e2]
  rw [e]
  by_cases h:m.o s = out
  ·rw [if_pos h]
   exact .inr ⟨[],⟨by simp [Wd],rfl,h⟩,rfl,fun w' _=>Nat.zero_le _⟩
  ·rw [if_neg h]
   refine .inl ⟨rfl,fun w ⟨_,h2,h3⟩=>?_⟩
   have:w = []:=List.eq_nil_of_length_eq_zero h2
   subst this
   exact h h3
 | k + 1,s,hs=>by
  rw [evK_gl hs]
  have h:=long_ok hm hs (evK_ok hm out k) m.base (Nat.le_refl _)
  have iff_:∀ w,m.Wk out s (k + 1) w→∃ c v,w = c :: v∧c < m.base:=fun w ⟨h1,h2,_⟩=>by
   cases w with
   | nil=>simp at h2
   | cons c v=>exact ⟨c,v,rfl,h1 c (by simp)⟩
  rcases h with ⟨e,hno⟩ | ⟨w,⟨hw,_⟩,e,hmin⟩
  ·exact .inl ⟨e,fun w h=>hno w ⟨h,iff_ w h⟩⟩
  ·exact .inr ⟨w,hw,e,fun w' h=>hmin w' ⟨h,iff_ w' h⟩⟩
theorem evK_bd {m:Mac} (hm:m.Ok) (out:Int) {k s:Nat} (hs:s < m.out.length):-1≤gl (m.evK out k) s∧gl (m.evK out k) s < (m.base ^ k:Nat):=by
 rcases evK_ok hm out k s hs with ⟨e,_⟩ | ⟨w,⟨h1,h2,_⟩,e,_⟩
 ·rw [e]
  have:=Nat.pow_pos (n:=k) (show 0 < m.base from hm.b1)
  omega
 ·rw [e]
  have:=val_lt hm.b1 h1
  rw [h2] at this
  omega
theorem nodup_lt:∀ (N:Nat) (l:List Nat),l.Nodup→(∀ x ∈ l,x < N)→l.length≤N:=fun N l h k=>by
 have:=nodup_sub h (r:=List.range N) fun x hx=>List.mem_range.2 (k x hx)
 rwa [List.length_range] at this
theorem short {m:Mac} (hm:m.Ok):∀ (k:Nat) (w:List Nat),w.length≤k→Wd m.base w→∃ w',Wd m.base w'∧w'.length < m.out.length∧m.run 0 w' = m.run 0 w
 | k,w,hk,hw=>by
  by_cases hl:w.length < m.out.length
  ·exact ⟨w,hw,hl,rfl⟩
  ·have hnn:¬ ((List.range (m.out.length + 1)).map fun i=>m.run 0 (w.take i)).Nodup:=fun hn=>by
    have:=nodup_lt m.out.length _ hn (fun x hx=>by
     obtain ⟨i,_,rfl⟩:=List.mem_map.1 hx
     exact hm.run hm.n1 fun y hy=>hw y (List.mem_of_mem_take hy))
    simp at this
    omega
   have:∃ i j,i < j∧j≤m.out.length∧m.run 0 (w.take i) = m.run 0 (w.take j):=by
    refine Classical.byContradiction fun hno=>hnn ?_
    rw [List.nodup_iff_pairwise_ne,List.pairwise_map]
    refine List.Pairwise.imp_of_mem ?_ (List.pairwise_lt_range (n:=m.out.length + 1))
    intro i j hi hj hij e
    exact hno ⟨i,j,hij,by have:=List.mem_range.1 hj; omega,e⟩
   obtain ⟨i,j,hij,hj,e⟩:=this
   have hlen:(w.take i ++ w.drop j).length < w.length:=by rw [List.length_append,List.length_take,List.length_drop]; omega
   have hwd:Wd m.base (w.take i ++ w.drop j):=fun x hx=>by
    rcases List.mem_append.1 hx with hx | hx
    ·exact hw x (List.mem_of_mem_take hx)
    ·exact hw x (List.mem_of_mem_drop hx)
   cases k with
   | zero=>omega
   | succ k =>
    obtain ⟨w',h1,h2,h3⟩:=short hm k (w.take i ++ w.drop j) (by omega) hwd
    refine ⟨w',h1,h2,?_⟩
    rw [h3,run_app,e,← run_app,List.take_append_drop]
theorem pad_word {b:Nat} (hb:2≤b) {n k:Nat} (h:n < b ^ k):∃ w,Wd b w∧w.length = k∧val b w = n:=by
 induction k generalizing n with
 | zero=>exact ⟨[],by simp [Wd],rfl,by simp at h; subst h; rfl⟩
 | succ k ih =>
  have h2:n / b < b ^ k:=by
   rw [Nat.pow_succ,Nat.mul_comm] at h
   exact Nat.div_lt_of_lt_mul h
  obtain ⟨w,h3,h4,h5⟩:=ih h2
  refine ⟨(n % b) :: w,Wd.cons (Nat.mod_lt _ (by omega)) h3,by simp [h4],?_⟩
  show n % b + b * val b w = n
  rw [h5]
  exact Nat.mod_add_div n b
theorem ever_ok {m:Mac} (hm:m.Ok) (hb:2≤m.base) (hz:m.Zer) (out:Int):(gl (m.evK out m.out.length) 0 = -1∧∀ n,m.at_ 0 n≠out)∨∃ n:Nat,gl (m.evK out m.out.length) 0 = n∧m.at_ 0 n = out∧∀ n',m.at_ 0 n' = out→n≤n':=by
 have hn1:=hm.n1
 have few:∀ n,m.at_ 0 n = out→∃ w,m.Wk out 0 m.out.length w∧val m.base w≤n:=by
  intro n hn
  by_cases hlt:n < m.base ^ m.out.length
  ·obtain ⟨w,h1,h2,h3⟩:=pad_word hb hlt
   refine ⟨w,⟨h1,h2,?_⟩,by omega⟩
   rw [at_val hm hb hz hn1 h1,h3]
   exact hn
  ·obtain ⟨w,h1,h2,h3⟩:=short hm _ (dg m.base n) (Nat.le_refl _) (dg_wd hb n)
   have h4:=val_lt hm.b1 h1
   have h5:m.base ^ w.length≤m.base ^ m.out.length:=Nat.pow_le_pow_right (by omega) (by omega)
   obtain ⟨w',h6,h7,h8⟩:=pad_word hb (Nat.lt_of_lt_of_le h4 h5)
   refine ⟨w',⟨h6,h7,?_⟩,by omega⟩
   rw [at_val hm hb hz hn1 h6,h8,← at_val hm hb hz hn1 h1,h3]
   exact hn
 rcases evK_ok hm out m.out.length 0 hn1 with ⟨e,hno⟩ | ⟨w,⟨h1,h2,h3⟩,e,hmin⟩
 ·refine .inl ⟨e,fun n hn=>?_⟩
  obtain ⟨w,hw,_⟩:=few n hn
  exact hno w hw
 ·refine .inr ⟨val m.base w,e,?_,fun n' hn=>?_⟩
  ·rw [← at_val hm hb hz hn1 h1]; exact h3
  ·obtain ⟨w',hw',hle⟩:=few n' hn
   exact Nat.le_trans (hmin w' hw') hle
end Mac
end Go.Proofs.Ytedneplaibmppaa
namespace Go.Proofs.Ytedneplaibmppaa
open Go.Rx Go.RowKit
theorem gl_set (ls:List Int) (i:Nat) (v:Int) (hi:i < ls.length) (j:Nat):gl (ls.set i v) j = if j = i then v else gl ls j:=by
 unfold gl
 rw [List.getD_eq_getElem?_getD,List.getD_eq_getElem?_getD]
 by_cases h:j = i
 ·subst h
  rw [if_pos rfl,List.getElem?_set_self hi]
  rfl
 ·rw [if_neg h,List.getElem?_set_ne (by omega)]
theorem list_gl {a b:List Int} (hl:a.length = b.length) (h:∀ j,j < a.length→gl a j = gl b j):a = b:=by
 refine List.ext_getElem hl fun i h1 h2=>?_
 have:=h i h1
 rw [gl_at h1,gl_at h2] at this
 exact this
theorem times_rep (z:Int) (n:Nat):times [int z] n = (List.replicate n z).map int:=by
 rw [times_zero]
 unfold rowF
 rw [List.map_replicate,List.map_const',List.length_range]
theorem row_view {H:Hp} {r n:Nat} {e:TypeId} {ls:List Int} (a:H.at r = some (.row e true (ls.map int))) (hl:ls.length = n):View H (slc r 0 n n) ls:=by
 subst hl
 exact Built.view (h0:=⟨0,H.raw⟩) (e:=e) (.inr ⟨r,rfl,Nat.zero_le _,true,a⟩)
theorem pow5 {b k:Nat} (hb:b≤5) (hk:k≤12):b ^ k≤300000000:=by
 have h1:b ^ k≤5 ^ k:=Nat.pow_le_pow_left hb k
 have h2:5 ^ k≤5 ^ 12:=Nat.pow_le_pow_right (by omega) hk
 have h3:5 ^ 12 = 244140625:=rfl
 omega
attribute [local irreducible] E idxN cellAt cellsAt storeAt callable helems hmoved lookIn findKey keyOk hentries Hp.at Hp.set Hp.lay arBits hupdated setAt CallP YieldP BoolOf IsWrap Rnd LoopP AppP CutP Int.tmod Int.tdiv Int.fdiv
section
variable [Unknowns]
attribute [local irreducible] sameAt
theorem longer_spec (v:Value) (al:Option Addr) (cl:Nat) (ls:List Int) (m:Mac) (s:Nat) (h:Hp) (hv:MV h v m.i) (hm:m.Ok) (hb:m.base≤5) (hl:m.out.length≤1000) (hs:s < m.out.length) (hlv:View h (.slice al ls.length cl) ls) (hll:ls.length = m.out.length) (hbd:∀ j,j < m.out.length→-1≤gl ls j∧gl ls j≤300000000):CallP E 98 [v,.slice al ls.length cl,int s] h (fun r h'=>r = int (m.longF ls s m.base)∧Grows h h'):=by
 obtain ⟨bx,rfl,hbx⟩:=hv.box
 obtain ⟨ao,an,co,cn,hcx⟩:=hbx.cx
 have hb1:=hm.b1
 have hil:=hm.ilen
 refine enter98 (by simp) ?_
 conv=>whnf
 refine SeqP.cut (α:=Hp) (fun _=>[(6,int 0),(3,ptr h.next 0),(2,int s),(1,.slice al ls.length cl)]) (fun x H=>x = H∧Grows h H∧H.at h.next = some (.row 25 true bx)) ?_ ?_
 ·conv=>whnf
  exact ⟨_,⟨rfl,rfl,rfl,rfl,trivial⟩,⟨rfl,Grows.lay _ _,Hp.at_lay_self _ _⟩,rfl⟩
 rintro H φ1 _ ⟨rfl,gH,aX⟩
 have kx:=hcx H h.next 25 gH aX
 have c0:cellAt H h.next 0 = some (int (m.base:Int)):=kx.c0
 have c2:=kx.c2
 have hvH:=hlv.ext gH
 conv=>whnf
 refine SeqP.go ?_
 conv=>whnf
 refine SeqP.cut (α:=Unit) (fun _=>[(7,int (m.longF ls s m.base)),(6,int 0)]) (fun _ H2=>H = H2) ?_ ?_
 rotate_left
 ·rintro _ φ2 _ rfl
  conv=>whnf
  repeat (refine SeqP.go ?_; conv=>whnf)
  exact ⟨rfl,gH⟩
 have hrw:=kx.rowAt (i:=s) (by rw [hil]; exact hs)
 obtain ⟨r1,o1,sp1,a',c',rfl,hsp1,hc1,hvr⟩:=hrw
 have erl:(rw_ m.i.next s).length = m.base:=hm.irow hs
 rw [erl] at hc1 hvr
 conv=>whnf
 repeat (refine SeqP.go ?_; conv=>whnf)
 refine ⟨_,c2,?_⟩
 conv=>whnf
 refine ⟨hsp1,⟨by omega,by omega⟩,?_⟩
 conv=>whnf
 refine ⟨_,hc1,?_⟩
 conv=>whnf
 repeat (refine SeqP.go ?_; conv=>whnf)
 refine loop_inv (α:=Nat) (fun d=>[(7,int (m.longF ls s d)),(17,int d),(16,int m.base),(15,.slice a' m.base c'),(3,ptr h.next 0),(2,int s),(1,.slice al ls.length cl),(6,int 0)]) (fun _=>H) (fun d=>d≤m.base) (fun d=>m.base - d) 0 (Nat.zero_le _) ⟨rfl,rfl,rfl,rfl,rfl,rfl,rfl,rfl,trivial⟩ (Hp.Le.refl _) ?_
 rintro d φ3 hd
 conv=>whnf
 repeat (refine SeqP.go ?_; conv=>whnf)
 refine cmpB (fun hlt=>?_) (fun hlt=>?_)
 rotate_left
 ·conv=>whnf
  repeat (refine SeqP.go ?_; conv=>whnf)
  have:d = m.base:=by omega
  subst this
  repeat (refine SeqP.go ?_; conv=>whnf)
  exact ⟨(),⟨rfl,rfl,trivial⟩,rfl,rfl⟩
 have hd':d < m.base:=by omega
 have hnx:=View.cellg hvr (i:=d) (by rw [erl]; exact hd')
 obtain ⟨r2,o2,sp2,ea,hsp2,-,hc2⟩:=hnx
 subst ea
 rw [Mac.i_nx] at hc2
 have hn:=hm.lt s d hs hd'
 have hexn:∃ t,m.nx s d = t:=⟨_,rfl⟩
 obtain ⟨t,et⟩:=hexn
 have hlF:m.longF ls s (d + 1) = if gl ls t < 0 then m.longF ls s d else if m.longF ls s d < 0∨gl ls t * m.base + d < m.longF ls s d then gl ls t * m.base + d else m.longF ls s d:=by rw [← et]; rfl
 rw [et] at hc2 hn
 have hcl:=View.cellg hvH (i:=t) (by omega)
 obtain ⟨r3,o3,sp3,ea,hsp3,-,hc3⟩:=hcl
 subst ea
 have hG:=hbd t hn
 have hexG:∃ G,gl ls t = G:=⟨_,rfl⟩
 obtain ⟨G,eG⟩:=hexG
 rw [eG] at hG hc3 hlF
 have hexL:∃ L,m.longF ls s d = L:=⟨_,rfl⟩
 obtain ⟨L,eL⟩:=hexL
 rw [eL] at hlF
 rw [eL]
 conv=>whnf
 repeat (refine SeqP.go ?_; conv=>whnf)
 refine ⟨hsp2,⟨by omega,by omega⟩,?_⟩
 conv=>whnf
 refine ⟨_,hc2,?_⟩
 conv=>whnf
 repeat (refine SeqP.go ?_; conv=>whnf)
 refine ⟨hsp3,⟨by omega,by omega⟩,?_⟩
 conv=>whnf
 refine ⟨_,hc3,?_⟩
 conv=>whnf
 by_cases hneg:G < 0
 ·rw [if_pos hneg] at hlF
  refine cmpT hneg ?_
  conv=>whnf
  repeat (refine SeqP.go ?_; conv=>whnf)
  refine ⟨_,wid (by omega),?_⟩
  conv=>whnf
  refine Rnd.mk (d + 1) (by show d + 1≤_; omega) (by show m.base - (d + 1) < m.base - d; omega) ⟨congrArg int hlF.symm,rfl,rfl,rfl,rfl,rfl,rfl,rfl,trivial⟩ (Hp.Le.refl _) rfl
 rw [if_neg hneg] at hlF
 refine cmpF hneg ?_
 conv=>whnf
 have hmul1:=Int.mul_nonneg (show 0≤G by omega) (Int.natCast_nonneg m.base)
 have hmul2:=Int.mul_le_mul hG.2 (show (m.base:Int)≤5 by omega) (Int.natCast_nonneg m.base) (by omega)
 have hexP:∃ P,G * (m.base:Int) = P:=⟨_,rfl⟩
 obtain ⟨P,eP⟩:=hexP
 rw [eP] at hmul1 hmul2 hlF
 repeat (refine SeqP.go ?_; conv=>whnf)
 refine ⟨hsp3,⟨by omega,by omega⟩,?_⟩
 conv=>whnf
 refine ⟨_,hc3,?_⟩
 conv=>whnf
 refine ⟨_,c0,?_⟩
 conv=>whnf
 refine ⟨P,wie eP (by omega),?_⟩
 conv=>whnf
 refine ⟨P + d,wie (by omega) (by omega),?_⟩
 conv=>whnf
 repeat (refine SeqP.go ?_; conv=>whnf)
 refine cmpB (fun hL=>?_) (fun hL=>?_)
 ·rw [if_pos (.inl hL)] at hlF
  conv=>whnf
  repeat (refine SeqP.go ?_; conv=>whnf)
  refine ⟨_,wid (by omega),?_⟩
  conv=>whnf
  exact Rnd.mk (d + 1) (by show d + 1≤_; omega) (by show m.base - (d + 1) < m.base - d; omega) ⟨congrArg int hlF.symm,rfl,rfl,rfl,rfl,rfl,rfl,rfl,trivial⟩ (Hp.Le.refl _) rfl
 ·conv=>whnf
  refine cmpB (fun hL2=>?_) (fun hL2=>?_)
  ·rw [if_pos (.inr hL2)] at hlF
   conv=>whnf
   repeat (refine SeqP.go ?_; conv=>whnf)
   refine ⟨_,wid (by omega),?_⟩
   conv=>whnf
   exact Rnd.mk (d + 1) (by show d + 1≤_; omega) (by show m.base - (d + 1) < m.base - d; omega) ⟨congrArg int hlF.symm,rfl,rfl,rfl,rfl,rfl,rfl,rfl,trivial⟩ (Hp.Le.refl _) rfl
  ·rw [if_neg (by omega)] at hlF
   conv=>whnf
   repeat (refine SeqP.go ?_; conv=>whnf)
   refine ⟨_,wid (by omega),?_⟩
   conv=>whnf
   exact Rnd.mk (d + 1) (by show d + 1≤_; omega) (by show m.base - (d + 1) < m.base - d; omega) ⟨congrArg int hlF.symm,rfl,rfl,rfl,rfl,rfl,rfl,rfl,trivial⟩ (Hp.Le.refl _) rfl
theorem ever_spec (v:Value) (m:Mac) (out:Int) (h:Hp) (hv:MV h v m.i) (hm:OkS m):CallP E 80 [v,int out] h (fun r h'=>(∃ b,r = .tuple ⟨[int (max (gl (m.evK out m.out.length) 0) 0),.bool b]⟩∧BoolOf b (0≤gl (m.evK out m.out.length) 0))∧Grows h h'):=by
 obtain ⟨bx,rfl,hbx⟩:=hv.box
 obtain ⟨ao,an,co,cn,hcx⟩:=hbx.cx
 have hlenx:=hbx.len
 have hn12:=hm.n12
 have hn1:=hm.ok.n1
 have hb5:=hm.b5
 have hexn:∃ n,m.out.length = n:=⟨_,rfl⟩
 obtain ⟨n,en⟩:=hexn
 rw [en] at hn12 hn1
 have bd:∀ k,k≤n→∀ j,j < n→-1≤gl (m.evK out k) j∧gl (m.evK out k) j≤300000000:=fun k hk j hj=>by
  have h1:=Mac.evK_bd hm.ok out (k:=k) (s:=j) (by omega)
  have h2:=pow5 hb5 (k:=k) (by omega)
  omega
 refine enter80 (by simp) ?_
 conv=>whnf
 refine SeqP.cut (α:=Hp) (fun _=>[(2,ptr h.next 0),(1,int out)]) (fun x H=>x = H∧Grows h H∧H.at h.next = some (.row 25 true bx)) ?_ ?_
 ·conv=>whnf
  exact ⟨_,⟨rfl,rfl,trivial⟩,⟨rfl,Grows.lay _ _,Hp.at_lay_self _ _⟩,rfl⟩
 rintro H φ1 _ ⟨rfl,gH,aX⟩
 have kxH:∀ H2,Grows H H2→Cx H2 h.next m.i ao an co cn:=fun H2 g=>hcx H2 h.next 25 (gH.trans g) (g.at_ _ _ aX)
 have c1H:∀ H2,Grows H H2→cellAt H2 h.next 1 = some (.slice ao n co):=fun H2 g=>by rw [← en]; exact (kxH H2 g).c1
 conv=>whnf
 refine SeqP.cut (α:=Hp) (fun _=>[(6,slc H.next 0 n n),(2,ptr h.next 0),(1,int out)]) (fun x H2=>x = H2∧Grows H H2∧H2.at H.next = some (.row 2 true ((List.replicate n 0).map int))) ?_ ?_
 ·conv=>whnf
  refine ⟨_,c1H _ (.refl _),?_⟩
  conv=>whnf
  refine ⟨⟨by omega,by omega,by omega,by omega⟩,?_⟩
  conv=>whnf
  refine ⟨_,⟨rfl,rfl,rfl,trivial⟩,⟨rfl,Grows.lay _ _,?_⟩,rfl⟩
  rw [← times_rep]
  exact Hp.at_lay_self _ _
 rintro H2 φ2 _ ⟨rfl,g2,aF⟩
 conv=>whnf
 refine SeqP.cut (α:=Hp) (fun _=>[(6,slc H.next 0 n n),(2,ptr h.next 0),(1,int out)]) (fun x H3=>x = H3∧Grows H H3∧H3.at H.next = some (.row 2 true ((m.evK out 0).map int))) ?_ ?_
 ·conv=>whnf
  repeat (refine SeqP.go ?_; conv=>whnf)
  refine ⟨_,c1H _ g2,?_⟩
  conv=>whnf
  repeat (refine SeqP.go ?_; conv=>whnf)
  refine loop_inv (α:=Nat×List Int×Hp) (fun s=>[(18,int s.1),(17,int n),(16,.slice ao n co),(6,slc H.next 0 n n),(2,ptr h.next 0),(1,int out)]) (fun s=>s.2.2) (fun s=>s.1≤n∧s.2.1.length = n∧(∀ j,j < s.1→gl s.2.1 j = if m.o j = out then 0 else -1)∧Grows H s.2.2∧s.2.2.at H.next = some (.row 2 true (s.2.1.map int))) (fun s=>n - s.1) (0,List.replicate n 0,_) ⟨Nat.zero_le _,List.length_replicate,fun j hj=>absurd hj (Nat.not_lt_zero _),g2,aF⟩ ⟨rfl,rfl,rfl,rfl,rfl,rfl,trivial⟩ (Hp.Le.refl _) ?_
  rintro ⟨i,ls,G⟩ φ3 ⟨hi,hls,hval_,gG,aG⟩
  dsimp only at hi hls hval_ gG aG ⊢
  conv=>whnf
  repeat (refine SeqP.go ?_; conv=>whnf)
  refine cmpB (fun hlt=>?_) (fun hlt=>?_)
  rotate_left
  ·conv=>whnf
   repeat (refine SeqP.go ?_; conv=>whnf)
   have:i = n:=by omega
   subst this
   refine ⟨G,⟨rfl,rfl,rfl,trivial⟩,⟨rfl,gG,?_⟩,rfl⟩
   have e:m.evK out 0 = ls:=list_gl (by rw [Mac.evK_len,hls,en]) fun j hj=>by
    rw [Mac.evK_len,en] at hj
    rw [hval_ j hj,gl_at (by rw [Mac.evK_len,en]; exact hj)]
    have e2:m.o j = m.out[j]:=gl_at (by rw [en]; exact hj)
    simp [Mac.evK,e2]
   rw [e]
   exact aG
  have hi':i < n:=by omega
  have hol:=(kxH G gG).outM (s:=i) (by omega)
  obtain ⟨r2,o2,sp2,ea,hsp2,hc2⟩:=hol
  subst ea
  have aG1:(G.set H.next (.row 2 true ((ls.map int).set i (int (-1))))).at H.next = some (.row 2 true ((ls.set i (-1)).map int)):=by
   rw [List.map_set]
   exact Hp.at_set_self _ (Hp.lt_of_at aG)
  have gG1:Grows H (G.set H.next (.row 2 true ((ls.map int).set i (int (-1))))):=gG.then_set _ (Nat.le_refl _)
  refine ⟨hsp2,⟨by omega,by omega⟩,?_⟩
  conv=>whnf
  refine ⟨_,hc2,?_⟩
  conv=>whnf
  repeat (refine SeqP.go ?_; conv=>whnf)
  refine ⟨rfl,⟨by omega,by omega⟩,?_⟩
  conv=>whnf
  refine ⟨rfl,_,storeAt_off aG (by rw [List.length_map,Int.toNat_natCast]; omega) rfl,?_⟩
  conv=>whnf
  repeat (refine SeqP.go ?_; conv=>whnf)
  refine cmpB (fun heq=>?_) (fun heq=>?_)
  ·conv=>whnf
   repeat (refine SeqP.go ?_; conv=>whnf)
   refine ⟨rfl,⟨by omega,by omega⟩,?_⟩
   conv=>whnf
   refine ⟨rfl,_,storeAt_off aG1 (by rw [List.length_map,List.length_set,Int.toNat_natCast]; omega) rfl,?_⟩
   conv=>whnf
   repeat (refine SeqP.go ?_; conv=>whnf)
   refine ⟨_,wid (by omega),?_⟩
   conv=>whnf
   refine Rnd.mk (i + 1,(ls.set i (-1)).set i 0,_) ⟨by show i + 1≤_; omega,?_,?_,gG1.then_set (.row 2 true (((ls.set i (-1)).map int).set i (int 0))) (Nat.le_refl _),?_⟩ (by show n - (i + 1) < n - i; omega) ⟨rfl,rfl,rfl,rfl,rfl,rfl,trivial⟩ (Hp.Le.refl _) rfl
   ·show ((ls.set i (-1)).set i 0).length = n
    rw [List.length_set,List.length_set,hls]
   ·intro j hj
    show gl ((ls.set i (-1)).set i 0) j = _
    rw [gl_set _ _ _ (by rw [List.length_set]; omega)]
    by_cases e:j = i
    ·subst e; rw [if_pos rfl,if_pos heq]
    ·rw [if_neg e,gl_set _ _ _ (by omega),if_neg e]
     exact hval_ j (by have:j < i + 1:=hj; omega)
   ·show (Hp.set _ _ _).at H.next = some (.row 2 true (((ls.set i (-1)).set i 0).map int))
    rw [show ((ls.set i (-1)).set i 0).map int = ((ls.set i (-1)).map int).set i (int 0) from List.map_set]
    exact Hp.at_set_self _ (Hp.lt_of_at aG1)
  ·conv=>whnf
   repeat (refine SeqP.go ?_; conv=>whnf)
   refine ⟨_,wid (by omega),?_⟩
   conv=>whnf
   refine Rnd.mk (i + 1,ls.set i (-1),_) ⟨by show i + 1≤_; omega,?_,?_,gG1,aG1⟩ (by show n - (i + 1) < n - i; omega) ⟨rfl,rfl,rfl,rfl,rfl,rfl,trivial⟩ (Hp.Le.refl _) rfl
   ·show (ls.set i (-1)).length = n
    rw [List.length_set,hls]
   ·intro j hj
    show gl (ls.set i (-1)) j = _
    rw [gl_set _ _ _ (by omega)]
    by_cases e:j = i
    ·subst e; rw [if_pos rfl,if_neg heq]
    ·rw [if_neg e]
     exact hval_ j (by have:j < i + 1:=hj; omega)
 rintro H3 φ3 _ ⟨rfl,g3,a3⟩
 conv=>whnf
 refine SeqP.cut (α:=Nat×Hp) (fun s=>[(6,slc s.1 0 n n)]) (fun s H4=>s.2 = H4∧Grows H s.2∧s.2.at s.1 = some (.row 2 true ((m.evK out n).map int))) ?_ ?_
 rotate_left
 ·rintro ⟨r,H4⟩ φ4 _ ⟨rfl,g4,a4⟩
  dsimp only at g4 a4 ⊢
  have hvw:=View.cellg (row_view a4 (by rw [Mac.evK_len,en])) (i:=0) (by rw [Mac.evK_len]; omega)
  obtain ⟨r5,o5,sp5,ea,hsp5,-,hc5⟩:=hvw
  injection ea with ea
  injection ea with e1 e2 e3
  subst e1; subst e2; subst e3
  have hexx:∃ x,gl (m.evK out n) 0 = x:=⟨_,rfl⟩
  obtain ⟨x,ex⟩:=hexx
  rw [ex] at hc5
  have hbx_:=bd n (Nat.le_refl _) 0 hn1
  rw [ex] at hbx_
  rw [en,ex]
  conv=>whnf
  repeat (refine SeqP.go ?_; conv=>whnf)
  refine ⟨hsp5,⟨by omega,by omega⟩,?_⟩
  conv=>whnf
  refine ⟨_,hc5,?_⟩
  conv=>whnf
  refine ⟨hsp5,⟨by omega,by omega⟩,?_⟩
  conv=>whnf
  refine ⟨_,hc5,?_⟩
  conv=>whnf
  refine cmpB (fun hge=>?_) (fun hge=>?_)
  ·conv=>whnf
   repeat (refine SeqP.go ?_; conv=>whnf)
   exact ⟨⟨true,congrArg (fun z=>Value.tuple ⟨[z,.bool true]⟩) (max_eq3 x 0),bo_yes hge⟩,gH.trans g4⟩
  ·conv=>whnf
   repeat (refine SeqP.go ?_; conv=>whnf)
   exact ⟨⟨false,congrArg (fun z=>Value.tuple ⟨[z,.bool false]⟩) (max_eq3 x 0),bo_no hge⟩,gH.trans g4⟩
 conv=>whnf
 repeat (refine SeqP.go ?_; conv=>whnf)
 refine ⟨_,c1H _ g3,?_⟩
 conv=>whnf
 repeat (refine SeqP.go ?_; conv=>whnf)
 refine loop_inv (α:=Nat×Nat×Hp) (fun s=>[(36,int s.1),(35,int n),(34,.slice ao n co),(6,slc s.2.1 0 n n),(2,ptr h.next 0),(1,int out)]) (fun s=>s.2.2) (fun s=>s.1≤n∧Grows H s.2.2∧s.2.2.at s.2.1 = some (.row 2 true ((m.evK out s.1).map int))) (fun s=>n - s.1) (0,H.next,H3) ⟨Nat.zero_le _,g3,a3⟩ ⟨rfl,rfl,rfl,rfl,rfl,rfl,trivial⟩ (Hp.Le.refl _) ?_
 rintro ⟨k,r,G⟩ φ4 ⟨hk,gG,aG⟩
 dsimp only at hk gG aG ⊢
 conv=>whnf
 repeat (refine SeqP.go ?_; conv=>whnf)
 refine cmpB (fun hlt=>?_) (fun hlt=>?_)
 rotate_left
 ·conv=>whnf
  repeat (refine SeqP.go ?_; conv=>whnf)
  have:k = n:=by omega
  subst this
  exact ⟨(r,G),⟨rfl,trivial⟩,⟨rfl,gG,aG⟩,rfl⟩
 have hk':k < n:=by omega
 conv=>whnf
 refine SeqP.go ?_
 conv=>whnf
 refine SeqP.go ?_
 conv=>whnf
 refine SeqP.cut (α:=Hp) (fun _=>[(9,slc G.next 0 n n),(6,slc r 0 n n),(36,int k),(35,int n),(34,.slice ao n co),(2,ptr h.next 0),(1,int out)]) (fun x H2=>x = H2∧Grows G H2∧H2.at G.next = some (.row 2 true ((List.replicate n 0).map int))) ?_ ?_
 ·conv=>whnf
  refine ⟨_,c1H _ gG,?_⟩
  conv=>whnf
  refine ⟨⟨by omega,by omega,by omega,by omega⟩,?_⟩
  conv=>whnf
  refine ⟨_,⟨rfl,rfl,rfl,rfl,rfl,rfl,rfl,trivial⟩,⟨rfl,Grows.lay _ _,?_⟩,rfl⟩
  rw [← times_rep]
  exact Hp.at_lay_self _ _
 rintro H5 φ5 _ ⟨rfl,g5,a5⟩
 conv=>whnf
 refine SeqP.cut (α:=Hp) (fun _=>[(9,slc G.next 0 n n),(36,int k),(35,int n),(34,.slice ao n co),(2,ptr h.next 0),(1,int out)]) (fun x H6=>x = H6∧Grows G H6∧H6.at G.next = some (.row 2 true ((m.evK out (k + 1)).map int))) ?_ ?_
 rotate_left
 ·rintro H6 φ6 _ ⟨rfl,g6,a6⟩
  conv=>whnf
  repeat (refine SeqP.go ?_; conv=>whnf)
  refine ⟨_,wid (by omega),?_⟩
  conv=>whnf
  exact Rnd.mk (k + 1,G.next,H6) ⟨by show k + 1≤_; omega,gG.trans g6,a6⟩ (by show n - (k + 1) < n - k; omega) ⟨rfl,rfl,rfl,rfl,rfl,rfl,trivial⟩ (Hp.Le.refl _) rfl
 have hbk:=bd k hk
 have hlk:(m.evK out k).length = n:=by rw [Mac.evK_len,en]
 conv=>whnf
 repeat (refine SeqP.go ?_; conv=>whnf)
 refine ⟨_,c1H _ (gG.trans g5),?_⟩
 conv=>whnf
 repeat (refine SeqP.go ?_; conv=>whnf)
 refine loop_inv (α:=Nat×List Int×Hp) (fun s=>[(45,int s.1),(44,int n),(43,.slice ao n co),(9,slc G.next 0 n n),(6,slc r 0 n n),(36,int k),(35,int n),(34,.slice ao n co),(2,ptr h.next 0),(1,int out)]) (fun s=>s.2.2) (fun s=>s.1≤n∧s.2.1.length = n∧(∀ j,j < s.1→gl s.2.1 j = m.longF (m.evK out k) j m.base)∧Grows G s.2.2∧s.2.2.at G.next = some (.row 2 true (s.2.1.map int))) (fun s=>n - s.1) (0,List.replicate n 0,_) ⟨Nat.zero_le _,List.length_replicate,fun j hj=>absurd hj (Nat.not_lt_zero _),g5,a5⟩ ⟨rfl,rfl,rfl,rfl,rfl,rfl,rfl,rfl,rfl,rfl,trivial⟩ (Hp.Le.refl _) ?_
 rintro ⟨i,ls,F⟩ φ6 ⟨hi,hls,hval_,gF,aF6⟩
 dsimp only at hi hls hval_ gF aF6 ⊢
 conv=>whnf
 repeat (refine SeqP.go ?_; conv=>whnf)
 refine cmpB (fun hlt2=>?_) (fun hlt2=>?_)
 rotate_left
 ·conv=>whnf
  repeat (refine SeqP.go ?_; conv=>whnf)
  have:i = n:=by omega
  subst this
  refine ⟨F,⟨rfl,rfl,rfl,rfl,rfl,rfl,trivial⟩,⟨rfl,gF,?_⟩,rfl⟩
  have e:m.evK out (k + 1) = ls:=list_gl (by rw [Mac.evK_len,hls,en]) fun j hj=>by
   rw [Mac.evK_len,en] at hj
   rw [hval_ j hj,Mac.evK_gl (by rw [en]; exact hj)]
  rw [e]
  exact aF6
 have hi':i < n:=by omega
 have vl:=row_view (gF.at_ _ _ aG) hlk
 have gHF:=gG.trans gF
 have hsp:=longer_spec (.agg ⟨bx⟩) (some ⟨r,0,none⟩) n (m.evK out k) m i F (Bx.mv (hbx.ext (gH.trans gHF))) hm.ok hb5 (by omega) (by omega) (by rw [hlk]; exact vl) (by rw [hlk,en]) (fun j hj=>hbk j (by omega))
 rw [hlk] at hsp
 conv=>whnf
 repeat (refine SeqP.go ?_; conv=>whnf)
 refine ⟨_,all_cells (gHF.at_ _ _ aX) hlenx,?_⟩
 conv=>whnf
 refine CallP.mono hsp ?_
 rintro _ F2 ⟨rfl,gF2⟩
 have aF7:=gF2.at_ _ _ aF6
 conv=>whnf
 refine ⟨rfl,⟨by omega,by omega⟩,?_⟩
 conv=>whnf
 refine ⟨rfl,_,storeAt_off aF7 (by rw [List.length_map,Int.toNat_natCast]; omega) rfl,?_⟩
 conv=>whnf
 repeat (refine SeqP.go ?_; conv=>whnf)
 refine ⟨_,wid (by omega),?_⟩
 conv=>whnf
 refine Rnd.mk (i + 1,ls.set i (m.longF (m.evK out k) i m.base),_) ⟨by show i + 1≤_; omega,?_,?_,(gF.trans gF2).then_set (.row 2 true ((ls.map int).set i (int (m.longF (m.evK out k) i m.base)))) (Nat.le_refl _),?_⟩ (by show n - (i + 1) < n - i; omega) ⟨rfl,rfl,rfl,rfl,rfl,rfl,rfl,rfl,rfl,rfl,trivial⟩ (Hp.Le.refl _) rfl
 ·show (ls.set i _).length = n
  rw [List.length_set,hls]
 ·intro j hj
  show gl (ls.set i _) j = _
  rw [gl_set _ _ _ (by omega)]
  by_cases e:j = i
  ·subst e; rw [if_pos rfl]
  ·rw [if_neg e]
   exact hval_ j (by have:j < i + 1:=hj; omega)
 ·show (Hp.set _ _ _).at G.next = some (.row 2 true ((ls.set i (m.longF (m.evK out k) i m.base)).map int))
  rw [List.map_set]
  exact Hp.at_set_self _ (Hp.lt_of_at aF7)
end
end Go.Proofs.Ytedneplaibmppaa
