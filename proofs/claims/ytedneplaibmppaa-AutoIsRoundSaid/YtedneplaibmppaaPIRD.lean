/- Contracts of the functions that PIRG comes to. -/
import Derived.Test.YtedneplaibmppaaPIRC
set_option maxRecDepth 100000
set_option maxHeartbeats 2000000
set_option linter.unusedVariables false
set_option linter.unusedSectionVars false
set_option linter.unusedSimpArgs false
namespace Go.Proofs.Ytedneplaibmppaa
open Go.Rx Go.RowKit
theorem uZ.known {h h':Hp} {r:Value} {m:Mac} (k:uZ h h' r m):∃ a b c e,r = .tuple ⟨[.agg ⟨[a,b,c]⟩,int e]⟩∧oneCell a = true∧oneCell b = true∧oneCell c = true:=by
 obtain ⟨u,e,rfl,h1,h2⟩:=k
 by_cases hl:m.form.out.length≤12
 ·obtain ⟨_,ho⟩:=h1 hl
  obtain ⟨x,y,rfl⟩:=ho.known
  exact ⟨_,_,_,e,rfl,rfl,rfl,rfl⟩
 ·obtain ⟨_,rfl⟩:=h2 (by omega)
  exact ⟨_,_,_,e,rfl,rfl,rfl,rfl⟩
theorem uZ.put {h h':Hp} {r:Value} {m:Mac} (k:uZ h h' r m) {R:Nat} (hR:R < h.next) (o:Rx.Obj):uZ h (h'.set R o) r m:=by
 obtain ⟨u,e,rfl,h1,h2⟩:=k
 exact ⟨u,e,rfl,fun q=>⟨(h1 q).1,(h1 q).2.put hR o⟩,h2⟩
theorem uZ.ext {h h' h2:Hp} {r:Value} {m:Mac} (g:aC h' h2) (k:uZ h h' r m):uZ h h2 r m:=by
 obtain ⟨u,e,rfl,h1,h3⟩:=k
 exact ⟨u,e,rfl,fun q=>⟨(h1 q).1,(h1 q).2.ext g⟩,h3⟩
theorem abG {a b c:Value} (h1:oneCell a = true) (h2:oneCell b = true) (h3:oneCell c = true):[a,b,c].all oneCell = true:=by simp [h1,h2,h3]
def IV (step from_:Int):Prop:=step < 1∨30 < step∨from_ < 0∨100 < from_
attribute [local irreducible] E iV cellAt bM storeAt callable dz dI dP findKey eD bT Hp.at Hp.set Hp.lay dO dw setAt aJ dA bO dG Rnd gD fK iN Int.tmod Int.tdiv Int.fdiv
section
variable [bE]
attribute [local irreducible] sameAt lH
theorem QT (v:Value) (m:Mac) (step from_:Int) (h:Hp) (hv:MV h v m.i) (hm:OkS m):aJ E 28 [v,int step,int from_] h (fun r h'=>((IV step from_→r = .tuple ⟨[noM,int 1]⟩)∧(¬ IV step from_→uZ h h' r (m.every step.toNat from_.toNat)))∧aC h h'):=by
 obtain ⟨bx,rfl,hbx⟩:=hv.box
 have hL:=hm.lens
 obtain ⟨i25,t25,lI,lJ⟩:=Io
 refine enter28 (by simp) ?_
 conv=>whnf
 refine ak.cut (α:=Hp) (fun _=>[(6,ptr (h.next + 1) 0),(3,ptr h.next 0),(1,int step),(2,int from_)]) (fun x H=>x = H∧aC h H∧H.at h.next = some (.row 25 true bx)∧H.at (h.next + 1) = some (.row 25 true [int 0,bg,bg])) ?_ ?_
 ·conv=>whnf
  have n1:(h.lay (.row 25 true bx)).next = h.next + 1:=Hp.bG _ _
  exact ⟨_,⟨congrArg (fun k=>ptr k 0) n1,rfl,rfl,rfl,trivial⟩,⟨rfl,(aC.lay _ _).bL _,Hp.bC _ (Hp.aA _ _),fM n1 (Hp.aA _ _)⟩,rfl⟩
 rintro H φ1 _ ⟨rfl,gH,aX,aR⟩
 conv=>whnf
 refine ak.cut (α:=Hp) (fun _=>[(6,ptr (h.next + 1) 0),(3,ptr h.next 0),(1,int step),(2,int from_)]) (fun x H2=>x = H2∧aC H H2) ?_ ?_
 ·conv=>whnf
  refine ak.go ?_
  conv=>whnf
  refine ⟨_,aM aX hbx.len,?_⟩
  conv=>whnf
  refine aJ.mono (om _ m.i _ (Bx.mv (hbx.ext gH)) hL.1 hL.2.1 hL.2.2) ?_
  rintro r H2 ⟨⟨e,rfl,he,-⟩,g2⟩
  have he:=he hm.ck
  subst he
  conv=>whnf
  repeat (refine ak.go ?_; conv=>whnf)
  refine yH (by omega) ?_
  conv=>whnf
  exact ⟨_,⟨rfl,rfl,rfl,rfl,trivial⟩,⟨rfl,g2⟩,rfl⟩
 rintro H2 φ2 _ ⟨rfl,g2⟩
 have aX2:=g2.at_ _ _ aX
 have aR2:=g2.at_ _ _ aR
 have gh2:=gH.trans g2
 have IU:=Hp.aU aR2
 have bad:IV step from_→∀ H,aC h H→(((IV step from_→Value.tuple ⟨[noM,int 1]⟩ = .tuple ⟨[noM,int 1]⟩)∧(¬ IV step from_→uZ h H (.tuple ⟨[noM,int 1]⟩) (m.every step.toNat from_.toNat)))∧aC h H):=fun k H g=>⟨⟨fun _=>rfl,fun q=>absurd k q⟩,g⟩
 have hRg:=Hp.bH (.row 25 true [int 0,bg,bg]) IU
 have gRg:aC h (H2.set (h.next + 1) (.row 25 true [int 0,bg,bg])):=gh2.dD _ (by omega)
 conv=>whnf
 refine ak.cut (α:=Unit) (fun _=>[(6,ptr (h.next + 1) 0),(3,ptr h.next 0),(1,int step),(2,int from_)]) (fun _ H3=>H2 = H3∧¬ IV step from_) ?_ ?_
 ·have fin:IV step from_→lH E [.cell 6 25,.tmp 7] ⟨NV φ2 [(6,ptr (h.next + 1) 0),(3,ptr h.next 0),(1,int step),(2,int from_)],H2,[]⟩ (fun _ _=>True)→True:=fun _ _=>trivial
  clear fin
  conv=>whnf
  refine ak.go ?_
  conv=>whnf
  refine dB (fun q1=>?_) (fun q1=>?_)
  ·conv=>whnf
   refine ak.go ?_
   conv=>whnf
   refine ⟨rfl,_,bJ (vs:=[int 0,bg,bg]) aR2 rfl rfl rfl,?_⟩
   conv=>whnf
   exact fu (r:=h.next + 1) (o:=0) (cs:=[int 0,bg,bg]) (w:=int 1) rfl rfl rfl t25 lI (by rw [lJ]; exact aM hRg rfl) (bad (.inl q1) _ gRg)
  conv=>whnf
  refine dB (fun q2=>?_) (fun q2=>?_)
  ·conv=>whnf
   refine ak.go ?_
   conv=>whnf
   refine ⟨rfl,_,bJ (vs:=[int 0,bg,bg]) aR2 rfl rfl rfl,?_⟩
   conv=>whnf
   exact fu (r:=h.next + 1) (o:=0) (cs:=[int 0,bg,bg]) (w:=int 1) rfl rfl rfl t25 lI (by rw [lJ]; exact aM hRg rfl) (bad (.inr (.inl q2)) _ gRg)
  conv=>whnf
  refine dB (fun q3=>?_) (fun q3=>?_)
  ·conv=>whnf
   refine ak.go ?_
   conv=>whnf
   refine ⟨rfl,_,bJ (vs:=[int 0,bg,bg]) aR2 rfl rfl rfl,?_⟩
   conv=>whnf
   exact fu (r:=h.next + 1) (o:=0) (cs:=[int 0,bg,bg]) (w:=int 1) rfl rfl rfl t25 lI (by rw [lJ]; exact aM hRg rfl) (bad (.inr (.inr (.inl q3))) _ gRg)
  conv=>whnf
  refine dB (fun q4=>?_) (fun q4=>?_)
  ·conv=>whnf
   refine ak.go ?_
   conv=>whnf
   refine ⟨rfl,_,bJ (vs:=[int 0,bg,bg]) aR2 rfl rfl rfl,?_⟩
   conv=>whnf
   exact fu (r:=h.next + 1) (o:=0) (cs:=[int 0,bg,bg]) (w:=int 1) rfl rfl rfl t25 lI (by rw [lJ]; exact aM hRg rfl) (bad (.inr (.inr (.inr q4))) _ gRg)
  conv=>whnf
  exact ⟨(),⟨rfl,rfl,rfl,rfl,trivial⟩,⟨rfl,fun k=>by unfold IV at k; omega⟩,rfl⟩
 rintro _ φ3 _ ⟨rfl,hnb⟩
 have hnb':=hnb
 unfold IV at hnb'
 have tF:∃ s:Nat,step = s:=⟨step.toNat,by omega⟩
 obtain ⟨s,rfl⟩:=tF
 have QN:∃ f:Nat,from_ = f:=⟨from_.toNat,by omega⟩
 obtain ⟨f,rfl⟩:=QN
 have heo:=Mac.pE hm.ok s f
 have tJ:=hm.n12
 have hle:=aaL heo.2 tJ (by omega)
 rw [Int.toNat_natCast,Int.toNat_natCast]
 have hb5:=hm.b5
 conv=>whnf
 refine ak.go ?_
 conv=>whnf
 refine ⟨_,aM aX2 hbx.len,?_⟩
 conv=>whnf
 refine aJ.mono (Bv _ m s f _ (Bx.mv (hbx.ext gh2)) hm (by omega) (by omega)) ?_
 rintro w H3 ⟨hw,g3⟩
 conv=>whnf
 refine aJ.mono (EM _ (m.every s f) _ hw.mv heo.1 hle (by show m.base≤1000; omega)) ?_
 rintro r H4 ⟨hr,g4⟩
 have hrk:=hr.known
 obtain ⟨a4,b4,c4,e4,rfl,o1,o2,o3⟩:=hrk
 have aR4:=g4.at_ _ _ (g3.at_ _ _ aR2)
 conv=>whnf
 refine ⟨rfl,_,bJ (vs:=[a4,b4,c4]) aR4 rfl (abG o1 o2 o3) rfl,?_⟩
 conv=>whnf
 refine fu (r:=h.next + 1) (o:=0) (cs:=[a4,b4,c4]) (w:=int e4) rfl rfl rfl t25 lI ?_ ?_
 ·rw [lJ]
  exact aM (Hp.bH _ (Hp.aU aR4)) rfl
 ·exact ⟨⟨fun k=>absurd k hnb,fun _=>(hr.put (by have:=g3.next; omega) _).back (by have:=g3.next; have:=gh2.next; omega)⟩,((gh2.trans g3).trans g4).dD _ (by omega)⟩
end
end Go.Proofs.Ytedneplaibmppaa
namespace Go.Proofs.Ytedneplaibmppaa
open Go.Rx
structure En where
 p:Int×Int
 bf:Int
 dg:Int
def kr (a b:Mac) (p:Int×Int) (d:Nat):Int×Int:=((a.nx p.1.toNat d:Nat),(b.nx p.2.toNat d:Nat))
def pF (a b:Mac) (p:Int×Int):Prop:=a.o p.1.toNat = b.o p.2.toNat
structure Df (a b:Mac) (T:List En) (S:List Nat) (i d:Nat):Prop where
 len:S.length = T.length
 first:∃ e,T[0]? = some e∧e.p = (0,0)∧e.bf = -1
 s0:S[0]? = some 0
 nodup:(T.map (·.p)).Nodup
 mem:∀ e ∈ T,e.p ∈ sq a.out.length b.out.length
 par:∀ (c:Nat) e,0 < c→T[c]? = some e→∃ (k g:Nat) (e':En) (s:Nat),e.bf = k∧e.dg = g∧k < c∧g < a.base∧T[k]? = some e'∧e.p = kr a b e'.p g∧S[k]? = some s∧S[c]? = some (s + 1)
 mono:∀ (c c':Nat) s s',c≤c'→S[c]? = some s→S[c']? = some s'→s≤s'
 near:∀ (c c':Nat) s s',i≤c→S[c]? = some s→S[c']? = some s'→s'≤s + 1
 clo:∀ (c e:Nat) x s,(c < i∨c = i∧e < d)→e < a.base→T[c]? = some x→S[c]? = some s→∃ (c':Nat) (y:En) (s':Nat),T[c']? = some y∧y.p = kr a b x.p e∧S[c']? = some s'∧s'≤s + 1
 same:∀ (c:Nat) e,c < i→T[c]? = some e→pF a b e.p
theorem OO {a b:Mac} (ha:a.Ok) (hb:b.Ok) (hbb:a.base = b.base) {p:Int×Int} (hp:p ∈ sq a.out.length b.out.length) {d:Nat} (hd:d < a.base):kr a b p d ∈ sq a.out.length b.out.length:=by
 have h:=iX.1 hp
 refine iX.2 ?_
 have h1:=ha.lt p.1.toNat d (by omega) hd
 have h2:=hb.lt p.2.toNat d (by omega) (by omega)
 unfold kr
 dsimp only
 omega
theorem Df.start {a b:Mac} (ha:a.Ok) (hb:b.Ok):Df a b [⟨(0,0),-1,0⟩] [0] 0 0 where
 len:=rfl
 first:=⟨_,rfl,rfl,rfl⟩
 s0:=rfl
 nodup:=by simp
 mem:=fun e he=>by
  rw [List.mem_singleton.1 he]
  have:=ha.n1
  have:=hb.n1
  exact iX.2 (by dsimp only; omega)
 par:=fun c e hc he=>by
  have:=(List.getElem?_eq_some_iff.1 he).1
  simp at this; omega
 mono:=fun c c' s s' _ h1 h2=>by
  have:=(List.getElem?_eq_some_iff.1 h1).1
  have:=(List.getElem?_eq_some_iff.1 h2).1
  simp at *
  subst_vars
  simp at h1 h2
  omega
 near:=fun c c' s s' _ h1 h2=>by
  have:=(List.getElem?_eq_some_iff.1 h2).1
  simp at this
  subst this
  simp at h2
  omega
 clo:=fun c e x s h=>by omega
 same:=fun c e h=>absurd h (Nat.not_lt_zero _)
theorem nC {α:Type} {l:List α} {x y:α} {c:Nat} (h:(l ++ [x])[c]? = some y):l[c]? = some y∨(c = l.length∧y = x):=by
 by_cases hc:c < l.length
 ·rw [List.getElem?_append_left hc] at h; exact .inl h
 ·have h1:=(List.getElem?_eq_some_iff.1 h).1
  rw [List.length_append,List.length_singleton] at h1
  have:c = l.length:=by omega
  subst this
  rw [List.getElem?_append_right (Nat.le_refl _)] at h
  simp at h
  exact .inr ⟨rfl,h.symm⟩
theorem kU {α:Type} {l:List α} {x y:α} {c:Nat} (h:l[c]? = some y):(l ++ [x])[c]? = some y:=by
 rw [List.getElem?_append_left (List.getElem?_eq_some_iff.1 h).1]; exact h
theorem Ei {α:Type} (l:List α) (x:α):(l ++ [x])[l.length]? = some x:=by
 rw [List.getElem?_append_right (Nat.le_refl _)]; simp
theorem Df.skip {a b:Mac} {T:List En} {S:List Nat} {i d:Nat} (k:Df a b T S i d) {x:En} {s:Nat} (hx:T[i]? = some x) (hs:S[i]? = some s) (h:kr a b x.p d ∈ T.map (·.p)):Df a b T S i (d + 1):=by
 refine { k with clo:=fun c e y t hc he hy ht=>?_ }
 by_cases hq:c = i∧e = d
 ·obtain ⟨rfl,rfl⟩:=hq
  rw [hx] at hy
  cases hy
  rw [hs] at ht
  cases ht
  obtain ⟨z,hz,ez⟩:=List.mem_map.1 h
  obtain ⟨c',hc'⟩:=List.getElem?_of_mem hz
  have hl:=(List.getElem?_eq_some_iff.1 hc').1
  have hsl:c' < S.length:=by have:=k.len; omega
  have hs':S[c']? = some S[c']:=List.getElem?_eq_getElem hsl
  exact ⟨c',z,_,hc',ez,hs',k.near c c' _ _ (Nat.le_refl _) hs hs'⟩
 ·exact k.clo c e y t (by omega) he hy ht
theorem Df.add {a b:Mac} (ha:a.Ok) (hb:b.Ok) (hbb:a.base = b.base) {T:List En} {S:List Nat} {i d:Nat} (k:Df a b T S i d) {x:En} {s:Nat} (hx:T[i]? = some x) (hs:S[i]? = some s) (hd:d < a.base) (h:kr a b x.p d ∉ T.map (·.p)):Df a b (T ++ [⟨kr a b x.p d,(i:Int),(d:Int)⟩]) (S ++ [s + 1]) i (d + 1):=by
 have hl:=k.len
 have hil:=(List.getElem?_eq_some_iff.1 hx).1
 refine ⟨by rw [List.length_append,List.length_append,hl]; rfl,?_,kU k.s0,?_,?_,?_,?_,?_,?_,?_⟩
 ·obtain ⟨e,h1,h2⟩:=k.first
  exact ⟨e,kU h1,h2⟩
 ·rw [List.map_append,List.nodup_append]
  exact ⟨k.nodup,by simp,fun y hy z hz=>by
   simp at hz
   rw [hz]
   exact fun e=>h (e ▸ hy)⟩
 ·intro e he
  rcases List.mem_append.1 he with he | he
  ·exact k.mem e he
  ·rw [List.mem_singleton.1 he]
   exact OO ha hb hbb (k.mem x (List.mem_of_getElem? hx)) hd
 ·intro c e hc he
  rcases nC he with he | ⟨rfl,rfl⟩
  ·obtain ⟨k',g,e',s',h1,h2,h3,h4,h5,h6,h7,h8⟩:=k.par c e hc he
   exact ⟨k',g,e',s',h1,h2,h3,h4,kU h5,h6,kU h7,kU h8⟩
  ·exact ⟨i,d,x,s,rfl,rfl,hil,hd,kU hx,rfl,kU hs,by rw [← hl]; exact Ei _ _⟩
 ·intro c c' t t' hcc h1 h2
  rcases nC h2 with h2 | ⟨rfl,rfl⟩
  ·rcases nC h1 with h1 | ⟨rfl,rfl⟩
   ·exact k.mono c c' t t' hcc h1 h2
   ·have:=(List.getElem?_eq_some_iff.1 h2).1
    omega
  ·rcases nC h1 with h1 | ⟨rfl,rfl⟩
   ·exact k.near i c s t (Nat.le_refl _) hs h1
   ·exact Nat.le_refl _
 ·intro c c' t t' hic h1 h2
  have hst:s≤t:=by
   rcases nC h1 with h1 | ⟨rfl,rfl⟩
   ·exact k.mono i c s t hic hs h1
   ·omega
  rcases nC h2 with h2 | ⟨rfl,rfl⟩
  ·have:=k.near i c' s t' (Nat.le_refl _) hs h2
   omega
  ·omega
 ·intro c e y t hc he hy ht
  have hcl:c < T.length:=by omega
  have hy2:T[c]? = some y:=by
   rcases nC hy with hy | ⟨e1,_⟩
   ·exact hy
   ·omega
  have ht2:S[c]? = some t:=by
   rcases nC ht with ht | ⟨e1,_⟩
   ·exact ht
   ·omega
  by_cases hq:c = i∧e = d
  ·obtain ⟨rfl,rfl⟩:=hq
   rw [hx] at hy2
   cases hy2
   rw [hs] at ht2
   cases ht2
   exact ⟨T.length,_,s + 1,Ei _ _,rfl,by rw [← hl]; exact Ei _ _,Nat.le_refl _⟩
  ·obtain ⟨c',y',s',h1,h2,h3,h4⟩:=k.clo c e y t (by omega) he hy2 ht2
   exact ⟨c',y',s',kU h1,h2,kU h3,h4⟩
 ·intro c e hc he
  rcases nC he with he | ⟨rfl,rfl⟩
  ·exact k.same c e hc he
  ·omega
theorem Df.turn {a b:Mac} {T:List En} {S:List Nat} {i:Nat} (k:Df a b T S i a.base) {x:En} (hx:T[i]? = some x) (h:pF a b x.p):Df a b T S (i + 1) 0 :=
 { k with
  near:=fun c c' s s' hc=>k.near c c' s s' (by omega)
  clo:=fun c e y t hc he=>k.clo c e y t (by omega) he
  same:=fun c e hc he=>by
   by_cases hq:c = i
   ·subst hq
    rw [hx] at he
    cases he
    exact h
   ·exact k.same c e (by omega) he }
theorem QU (a b:Mac):∀ (w:List Nat) (s t:Nat),wG (kr a b) ((s:Int),(t:Int)) w = (((a.run s w:Nat):Int),((b.run t w:Nat):Int))
 | [],s,t=>rfl
 | d :: w,s,t=>QU a b w (a.nx s d) (b.nx t d)
theorem Df.alike {a b:Mac} {T:List En} {S:List Nat} {i:Nat} (k:Df a b T S i 0) (hi:T.length≤i):Mac.Alike a b 0 0:=by
 have key:∀ (w:List Nat) (c:Nat) (x:En),Mac.Wd a.base w→T[c]? = some x→pF a b (wG (kr a b) x.p w):=by
  intro w
  induction w with
  | nil=>intro c x _ hx; exact k.same c x (by have:=(List.getElem?_eq_some_iff.1 hx).1; omega) hx
  | cons d w ih =>
   intro c x hw hx
   have hl:=(List.getElem?_eq_some_iff.1 hx).1
   have hsl:c < S.length:=by have:=k.len; omega
   obtain ⟨c',y,s',h1,h2,_⟩:=k.clo c d x S[c] (.inl (by omega)) (hw d (by simp)) hx (List.getElem?_eq_getElem hsl)
   have:=ih c' y (fun z hz=>hw z (by simp [hz])) h1
   rw [h2] at this
   exact this
 intro w hw
 obtain ⟨e,h1,h2,_⟩:=k.first
 have h:=key w 0 e hw h1
 rw [h2] at h
 have e2:=QU a b w 0 0
 have e3:((0:Int),(0:Int)) = (((0:Nat):Int),((0:Nat):Int)):=rfl
 rw [e3,e2] at h
 unfold pF at h
 rw [Int.toNat_natCast,Int.toNat_natCast] at h
 exact h
theorem Df.least {a b:Mac} {T:List En} {S:List Nat} {i:Nat} (k:Df a b T S i 0) {s:Nat} (hs:S[i]? = some s) {w:List Nat} (hw:Mac.Wd a.base w) (h:a.o (a.run 0 w)≠b.o (b.run 0 w)):s≤w.length:=by
 have key:∀ (w v:List Nat) (c:Nat) (x:En) (t:Nat),Mac.Wd a.base v→T[c]? = some x→S[c]? = some t→t≤w.length→¬ pF a b (wG (kr a b) x.p v)→s≤w.length + v.length:=by
  intro w v
  induction v generalizing w with
  | nil =>
   intro c x t _ hx ht htw hn
   by_cases hc:c < i
   ·exact absurd (k.same c x hc hx) hn
   ·have:=k.mono i c s t (by omega) hs ht
    simp; omega
  | cons d v ih =>
   intro c x t hv hx ht htw hn
   by_cases hc:c < i
   ·obtain ⟨c',y,s',h1,h2,h3,h4⟩:=k.clo c d x t (.inl hc) (hv d (by simp)) hx ht
    have:=ih (w ++ [d]) c' y s' (fun z hz=>hv z (by simp [hz])) h1 h3 (by rw [List.length_append,List.length_singleton]; omega) (by rw [h2]; exact hn)
    rw [List.length_append,List.length_singleton] at this
    rw [List.length_cons]
    omega
   ·have:=k.mono i c s t (by omega) hs ht
    omega
 obtain ⟨e,h1,h2,_⟩:=k.first
 have:=key [] w 0 e 0 hw h1 k.s0 (Nat.le_refl _) (by
  rw [h2]
  have e3:((0:Int),(0:Int)) = (((0:Nat):Int),((0:Nat):Int)):=rfl
  rw [e3,QU]
  unfold pF
  rw [Int.toNat_natCast,Int.toNat_natCast]
  exact h)
 simpa using this
def both (a b:Mac):Mac:=⟨a.base,a.out ++ b.out,a.next ++ b.next.map fun r=>r.map fun t=>t + a.out.length⟩
theorem Zb {a b:Mac} {s:Nat} (h:s < a.out.length):(both a b).o s = a.o s:=by
 unfold both Mac.o
 dsimp only
 rw [List.getD_eq_getElem?_getD,List.getD_eq_getElem?_getD,List.getElem?_append_left h]
theorem Zc {a b:Mac} (t:Nat):(both a b).o (t + a.out.length) = b.o t:=by
 unfold both Mac.o
 dsimp only
 rw [List.getD_eq_getElem?_getD,List.getD_eq_getElem?_getD,List.getElem?_append_right (by omega),Nat.add_sub_cancel]
theorem Sn {a b:Mac} (ha:a.Ok) {s d:Nat} (h:s < a.out.length):(both a b).nx s d = a.nx s d:=by
 unfold both Mac.nx
 dsimp only
 rw [List.getD_eq_getElem?_getD (l:=a.next ++ _),List.getElem?_append_left (by rw [ha.len]; exact h),← List.getD_eq_getElem?_getD]
theorem Ki {a b:Mac} (ha:a.Ok) (t:Nat):(both a b).next.getD (t + a.out.length) [] = (b.next.getD t []).map fun t=>t + a.out.length:=by
 unfold both
 dsimp only
 rw [List.getD_eq_getElem?_getD,List.getElem?_append_right (by rw [ha.len]; omega),ha.len,Nat.add_sub_cancel,List.getElem?_map,List.getD_eq_getElem?_getD]
 cases b.next[t]? <;> rfl
theorem Sq {a b:Mac} (ha:a.Ok) (hb:b.Ok) {t d:Nat} (h:t < b.out.length) (hd:d < b.base):(both a b).nx (t + a.out.length) d = b.nx t d + a.out.length:=by
 unfold Mac.nx
 rw [Ki ha]
 have hl:=hb.row t h
 generalize b.next.getD t [] = l at hl
 rw [List.getD_eq_getElem?_getD,List.getD_eq_getElem?_getD,List.getElem?_map,List.getElem?_eq_getElem (by omega)]
 rfl
theorem Zd {a b:Mac} (ha:a.Ok) (hb:b.Ok) (hbb:a.base = b.base):(both a b).Ok:=by
 have hlen:(both a b).out.length = a.out.length + b.out.length:=List.length_append
 refine ⟨ha.b1,by rw [hlen]; have:=ha.n1; omega,?_,fun s hs=>?_,fun s d hs hd=>?_⟩
 ·rw [hlen]
  show (a.next ++ _).length = _
  rw [List.length_append,List.length_map,ha.len,hb.len]
 ·rw [hlen] at hs
  by_cases h:s < a.out.length
  ·have:(both a b).next.getD s [] = a.next.getD s []:=by
    unfold both
    dsimp only
    rw [List.getD_eq_getElem?_getD,List.getElem?_append_left (by rw [ha.len]; exact h),← List.getD_eq_getElem?_getD]
   rw [this]
   exact ha.row s h
  ·obtain ⟨t,rfl⟩:∃ t,s = t + a.out.length:=⟨s - a.out.length,by omega⟩
   rw [Ki ha,List.length_map,hb.row t (by omega)]
   exact hbb.symm
 ·rw [hlen] at hs ⊢
  have hd:d < a.base:=hd
  by_cases h:s < a.out.length
  ·rw [Sn ha h]
   have:=ha.lt s d h hd
   omega
  ·obtain ⟨t,rfl⟩:∃ t,s = t + a.out.length:=⟨s - a.out.length,by omega⟩
   rw [Sq ha hb (by omega) (by omega)]
   have:=hb.lt t d (by omega) (by omega)
   omega
theorem Kj {a b:Mac} (ha:a.Ok):∀ {w:List Nat} {s:Nat},s < a.out.length→Mac.Wd a.base w→(both a b).run s w = a.run s w
 | [],s,_,_=>rfl
 | d :: w,s,hs,hw=>by
  show (both a b).run ((both a b).nx s d) w = a.run (a.nx s d) w
  rw [Sn ha hs]
  exact Kj ha (ha.lt s d hs (hw d (by simp))) fun x hx=>hw x (by simp [hx])
theorem Kl {a b:Mac} (ha:a.Ok) (hb:b.Ok):∀ {w:List Nat} {t:Nat},t < b.out.length→Mac.Wd b.base w→(both a b).run (t + a.out.length) w = b.run t w + a.out.length
 | [],t,_,_=>rfl
 | d :: w,t,ht,hw=>by
  show (both a b).run ((both a b).nx _ d) w = b.run (b.nx t d) w + _
  rw [Sq ha hb ht (hw d (by simp))]
  exact Kl ha hb (hb.lt t d ht (hw d (by simp))) fun x hx=>hw x (by simp [hx])
theorem aaM {a b:Mac} (ha:a.Ok) (hb:b.Ok) (hbb:a.base = b.base) (h:¬ Mac.Alike a b 0 0):∃ w,Mac.Wd a.base w∧w.length≤a.out.length + b.out.length∧a.o (a.run 0 w)≠b.o (b.run 0 w):=by
 have ho:=Zd ha hb hbb
 have hlen:(both a b).out.length = a.out.length + b.out.length:=List.length_append
 have ha1:=ha.n1
 have hb1:=hb.n1
 have e:∀ w,Mac.Wd a.base w→((both a b).o ((both a b).run 0 w) = a.o (a.run 0 w)∧(both a b).o ((both a b).run (0 + a.out.length) w) = b.o (b.run 0 w)):=fun w hw=>by
  have h1:=ha.run (w:=w) ha1 hw
  rw [Kj ha ha1 hw,Kl ha hb hb1 (hbb ▸ hw),Zb h1,Zc]
  exact ⟨rfl,rfl⟩
 obtain ⟨w,h1,h2,h3⟩:=Mac.abq ho (s:=0) (t:=0 + a.out.length) (by omega) (by omega) (fun k=>h fun w hw=>by
  have:=k w hw
  rw [(e w hw).1,(e w hw).2] at this
  exact this)
 exact ⟨w,h1,by omega,by rw [(e w h1).1,(e w h1).2] at h3; exact h3⟩
end Go.Proofs.Ytedneplaibmppaa
namespace Go.Proofs.Ytedneplaibmppaa
open Go.Rx Go.RowKit
def EN (n:Nat):Hp:=⟨n,fun _=>none⟩
theorem EO {n:Nat} {h:Hp} (hn:n≤h.next):aC (EN n) h:=⟨hn,fun r o e=>by
 unfold Hp.at EN at e
 dsimp only at e
 split at e <;> cases e⟩
def fl4:List En→List Value
 | []=>[]
 | e :: l=>int e.p.1 :: int e.p.2 :: int e.bf :: int e.dg :: fl4 l
theorem Sr:∀ (l r:List En),fl4 (l ++ r) = fl4 l ++ fl4 r
 | [],r=>rfl
 | e :: l,r=>by show _ :: _ :: _ :: _ :: fl4 (l ++ r) = _; rw [Sr l r]; rfl
theorem Sv:∀ l:List En,(fl4 l).length = l.length * 4
 | []=>rfl
 | e :: l=>by show (fl4 l).length + 1 + 1 + 1 + 1 = (l.length + 1) * 4; rw [Sv l]; omega
theorem OP:∀ (l:List En) (k:Nat) (x:En),l[k]? = some x→(fl4 l).drop (k * 4) = int x.p.1 :: int x.p.2 :: int x.bf :: int x.dg :: fl4 (l.drop (k + 1))
 | e :: l,0,x,h=>by cases h; rfl
 | e :: l,k + 1,x,h=>by
  have:=OP l k x (by simpa using h)
  rw [show (k + 1) * 4 = k * 4 + 1 + 1 + 1 + 1 by omega]
  simpa [fl4] using this
def zi (h:Hp) (M:Nat) (l:List (Int×Int)):Prop:=∃ n,MapAt h M dH (fun k=>if k ∈ l then some (.bool true) else none) n
theorem zi.ext {h h':Hp} {M:Nat} {l:List (Int×Int)} (g:aC h h') (k:zi h M l):zi h' M l:=let ⟨n,k⟩:=k; ⟨n,k.ext g⟩
structure DM (h H:Hp) (M:Nat) (bxa bxb:List Value) (st:Value) (T:List En):Prop where
 gr:aC h H
 xa:H.at h.next = some (.row 25 true bxa)
 xb:H.at (h.next + 1) = some (.row 25 true bxb)
 ml:M < H.next
 l:bD (EN (M + 1)) H 133 4 st T.length (fl4 T)
theorem DM.ext {h H H':Hp} {M:Nat} {bxa bxb:List Value} {st:Value} {T:List En} (g:aC H H') (k:DM h H M bxa bxb st T):DM h H' M bxa bxb st T :=
 ⟨k.gr.trans g,g.at_ _ _ k.xa,g.at_ _ _ k.xb,Nat.lt_of_lt_of_le k.ml g.next,k.l.ext g⟩
theorem DM.cell {h H:Hp} {M:Nat} {bxa bxb:List Value} {st:Value} {T:List En} (k:DM h H M bxa bxb st T) {i:Nat} {x:En} (hi:T[i]? = some x):∃ r,st = slc r 0 T.length T.length∧bM H r (iy 0 i 4) 2 = some [int x.p.1,int x.p.2]∧cellAt H r (iy 0 i 4 + 2) = some (int x.bf)∧cellAt H r (iy 0 i 4 + 3) = some (int x.dg):=by
 have hl:=(List.getElem?_eq_some_iff.1 hi).1
 have hd:=OP T i x hi
 obtain ⟨hlen,⟨_,e1⟩ | ⟨r,er,_,y,hr⟩⟩:=k.l
 ·omega
 ·have get:∀ j v,((fl4 T).drop (i * 4))[j]? = some v→(fl4 T)[i * 4 + j]? = some v:=fun j v e=>by rw [List.getElem?_drop] at e; exact e
  refine ⟨r,er,?_,?_,?_⟩
  ·rw [iL,Nat.zero_add,gX hr (by rw [Sv]; omega),hd]
   rfl
  ·rw [iL,Nat.zero_add]
   exact aQ hr (get 2 _ (by rw [hd]; rfl))
  ·rw [iL,Nat.zero_add]
   exact aQ hr (get 3 _ (by rw [hd]; rfl))
theorem Df.way {a b:Mac} {T:List En} {S:List Nat} {i d:Nat} (k:Df a b T S i d):∀ (c:Nat) (e:En),T[c]? = some e→∃ w,Mac.Wd a.base w∧wG (kr a b) (0,0) w = e.p:=fun c=>by
 induction c using Nat.strongRecOn with
 | ind c ih =>
  intro e he
  by_cases h0:c = 0
  ·subst h0
   obtain ⟨e',h1,h2,_⟩:=k.first
   rw [he] at h1
   cases h1
   exact ⟨[],by simp [Mac.Wd],h2.symm⟩
  ·obtain ⟨k',g,e',s',h1,h2,h3,h4,h5,h6,_,_⟩:=k.par c e (by omega) he
   obtain ⟨w,hw,ew⟩:=ih k' h3 e' h5
   refine ⟨w ++ [g],fun x hx=>?_,?_⟩
   ·rcases List.mem_append.1 hx with hx | hx
    ·exact hw x hx
    ·rw [List.mem_singleton.1 hx]; exact h4
   ·rw [Ik,ew,h6]; rfl
theorem Df.differ {a b:Mac} {T:List En} {S:List Nat} {i d c:Nat} {e:En} (k:Df a b T S i d) (he:T[c]? = some e) (h:¬ pF a b e.p):¬ Mac.Alike a b 0 0:=fun q=>by
 obtain ⟨w,hw,ew⟩:=k.way c e he
 refine h ?_
 rw [← ew]
 have e3:((0:Int),(0:Int)) = (((0:Nat):Int),((0:Nat):Int)):=rfl
 rw [e3,QU]
 unfold pF
 rw [Int.toNat_natCast,Int.toNat_natCast]
 exact q w hw
theorem abH (k:IntKind) (n:Int):dG k n (jT k n):=rfl
theorem abI {b k:Nat} (hb:b≤5) (hk:k≤26) (hb1:1≤b):b ^ k≤1490116119384765625:=by
 have h1:b ^ k≤5 ^ k:=Nat.pow_le_pow_left hb k
 have h2:5 ^ k≤5 ^ 26:=Nat.pow_le_pow_right (by omega) hk
 have h3:5 ^ 26 = 1490116119384765625:=by decide
 omega
def abJ (a b:Mac) (r:Value):Prop:=∃ n d,r = .tuple ⟨[int n,.bool d]⟩∧(d = false→n = 0∧Mac.Alike a b 0 0)∧(d = true→∃ w,Mac.Wd a.base w∧w.length≤a.out.length + b.out.length∧a.o (a.run 0 w)≠b.o (b.run 0 w)∧(a.out.length + b.out.length≤26→n = val a.base w))
section
variable [bE]
theorem DM.app {h H:Hp} {M:Nat} {bxa bxb:List Value} {st:Value} {T:List En} {e:En} {b:Bool} {K:Value→Hp→Prop} (k:DM h H M bxa bxb st T) (hM:h.next + 2≤M) (hl:T.length≤30000000)
  (q:∀ v' H',(∃ a n,v' = .slice a n n)→DM h H' M bxa bxb v' (T ++ [e])→Kx (ad st) H H'→(∀ r,ad v' = some r→H.next≤r)→K v' H'):fK E (H.lay (.row 133 b [int e.p.1,int e.p.2,int e.bf,int e.dg])) 133 4 32 st (slc H.next 0 1 1) K:=by
 have g1:aC H (H.lay (.row 133 b [int e.p.1,int e.p.2,int e.bf,int e.dg])):=aC.lay _ _
 have k1:=k.ext g1
 have Za:M + 1≤(H.lay (.row 133 b [int e.p.1,int e.p.2,int e.bf,int e.dg])).next:=k1.ml
 have hel:yJ (H.lay (.row 133 b [int e.p.1,int e.p.2,int e.bf,int e.dg])) 4 (slc H.next 0 1 1) 1 [int e.p.1,int e.p.2,int e.bf,int e.dg]:=by
  refine ⟨rfl,?_,rfl,rfl⟩
  show bM (H.lay (.row 133 b [int e.p.1,int e.p.2,int e.bf,int e.dg])) H.next 0 (1 * 4) = _
  exact aM (Hp.aA _ _) rfl
 refine fK.D6 k1.l (EO Za) hel (by omega) (by omega) (by omega) ?_
 intro v' H' hb' hg' hkeep ⟨r',er,hr'⟩
 have hv:=hb'.jf r' (by rw [er]; rfl)
 have x:=Kx.bW k1.l hkeep
 have keep:∀ r o,r≤M→(H.lay (.row 133 b [int e.p.1,int e.p.2,int e.bf,int e.dg])).at r = some o→H'.at r = some o:=fun r o hr ho=>hkeep r o ho fun n c ev=>by
  have:=(k1.l.jf r (by rw [ev]; rfl)).1
  have:M + 1≤r:=this
  omega
 refine q _ _ ⟨_,_,er⟩ ⟨⟨by have:=k1.gr.next; omega,fun r o ho=>keep r o (by have:=Hp.aU ho; omega) (k1.gr.at_ _ _ ho)⟩,keep _ _ (by omega) k1.xa,keep _ _ (by omega) k1.xb,by omega,by rw [List.length_append,Sr]; exact hb'⟩ ((Kx.grows g1).trans x) (fun r e2=>by
  rw [er] at e2
  cases e2
  rw [Hp.bG] at hr'
  omega)
end
attribute [local irreducible] E iV cellAt bM storeAt callable dz dI dP findKey eD bT Hp.at Hp.set Hp.lay dO dw setAt aJ dA bO dG Rnd gD fK iN Int.tmod Int.tdiv Int.fdiv
section
variable [bE]
attribute [local irreducible] sameAt
theorem UK (va vb:Value) (a b:Mac) (h:Hp) (hva:MV h va a.i) (hvb:MV h vb b.i) (ha:a.Ok) (hb:b.Ok) (hbb:a.base = b.base) (hb5:a.base≤5) (hsz:a.out.length * b.out.length≤30000000):aJ E 65 [va,vb] h (fun r h'=>abJ a b r∧aC h h'):=by
 obtain ⟨bxa,rfl,hxa⟩:=hva.box
 obtain ⟨bxb,rfl,hxb⟩:=hvb.box
 obtain ⟨aoa,ana,coa,cna,XG⟩:=hxa.cx
 obtain ⟨aob,anb,cob,cnb,Ze⟩:=hxb.cx
 obtain ⟨i4,t4,z4⟩:=ty4
 obtain ⟨iM,tM,dM⟩:=abw
 have ac1:=ha.yT
 have ac2:=hb.yT
 have few:∀ {T S i d},Df a b T S i d→T.length≤30000000:=fun {T S i d} k=>by
  have:=jY k.nodup (r:=sq a.out.length b.out.length) (fun p hp=>by
   obtain ⟨e,he,rfl⟩:=List.mem_map.1 hp
   exact k.mem e he)
  rw [List.length_map,wP] at this
  omega
 refine enter65 (by simp) ?_
 conv=>whnf
 refine ak.cut (α:=Hp) (fun _=>[(3,ptr (h.next + 1) 0),(2,ptr h.next 0)]) (fun x H=>x = H∧aC h H∧H.at h.next = some (.row 25 true bxa)∧H.at (h.next + 1) = some (.row 25 true bxb)∧H.next = h.next + 2) ?_ ?_
 ·conv=>whnf
  have n1:(h.lay (.row 25 true bxa)).next = h.next + 1:=Hp.bG _ _
  exact ⟨_,⟨congrArg (fun k=>ptr k 0) n1,rfl,trivial⟩,⟨rfl,(aC.lay _ _).bL _,Hp.bC _ (Hp.aA _ _),fM n1 (Hp.aA _ _),by rw [Hp.bG,n1]⟩,rfl⟩
 rintro H φ1 _ ⟨rfl,gH,aXa,aXb,nH⟩
 conv=>whnf
 refine ak.cut (α:=Hp) (fun _=>[(6,ptr H.next 0),(3,ptr (h.next + 1) 0),(2,ptr h.next 0)]) (fun x H2=>x = H2∧aC H x∧x.at H.next = some (.row 106 true [int 0,int 0])) ?_ ?_
 ·conv=>whnf
  refine ⟨rfl,_,cK (vs:=[int 0,int 0]) rfl rfl rfl,?_⟩
  conv=>whnf
  exact ⟨_,⟨rfl,rfl,rfl,trivial⟩,⟨rfl,aC.lay _ _,Hp.aA _ _⟩,rfl⟩
 rintro H2 φ2 _ ⟨rfl,g2,aP⟩
 conv=>whnf
 refine ak.cut (α:=Nat×Hp) (fun s=>[(7,bK s.1),(6,ptr H.next 0),(3,ptr (h.next + 1) 0),(2,ptr h.next 0)]) (fun s H3=>s.2 = H3∧aC H2 s.2∧zi s.2 s.1 [(0,0)]∧H2.next≤s.1) ?_ ?_
 ·conv=>whnf
  refine ⟨_,aM (Hp.bC _ aP) rfl,?_⟩
  conv=>whnf
  refine kR tM dM yU (k:=((0:Int),(0:Int))) (v:=.bool true) (n:=0) rfl rfl rfl (MapAt.new _) ?_
  intro H3 hM3 y3
  have gl3:aC H2 (H2.lay (.map [] 0)):=aC.lay _ _
  have gk3:aC H2 H3:=⟨by rw [y3.next]; exact gl3.next,fun r o e=>y3.at_ r o (by have:=Hp.aU e; omega) (gl3.at_ r o e)⟩
  conv=>whnf
  refine ⟨(H2.next,H3),⟨rfl,rfl,rfl,rfl,trivial⟩,⟨rfl,gk3,⟨_,hM3.congr fun k=>?_⟩,Nat.le_refl _⟩,rfl⟩
  by_cases e:k = (0,0)
  ·rw [if_pos e,if_pos (by rw [e]; simp)]
  ·rw [if_neg e,if_neg (by simpa using e)]
 rintro ⟨M,H3⟩ φ3 _ ⟨rfl,g3,hM3,qh⟩
 dsimp only at g3 hM3 qh ⊢
 have hM2:h.next + 2≤M:=by have:=g2.next; omega
 have g23:=(gH.trans g2).trans g3
 have Za:M + 1≤H3.next:=by
  obtain ⟨_,_,_,h1,_⟩:=hM3
  exact Hp.aU h1
 conv=>whnf
 refine ak.cut (α:=Value×Hp) (fun s=>[(8,s.1),(7,bK M),(3,ptr (h.next + 1) 0),(2,ptr h.next 0)]) (fun s H4=>s.2 = H4∧DM h s.2 M bxa bxb s.1 [⟨(0,0),-1,0⟩]∧zi s.2 M [(0,0)]) ?_ ?_
 ·conv=>whnf
  refine ⟨_,aM (g3.at_ _ _ aP) rfl,?_⟩
  conv=>whnf
  exact ⟨(slc H3.next 0 1 1,_),⟨rfl,rfl,rfl,rfl,trivial⟩,⟨rfl,⟨g23.bL _,Hp.bC _ (g3.at_ _ _ (g2.at_ _ _ aXa)),Hp.bC _ (g3.at_ _ _ (g2.at_ _ _ aXb)),by dsimp only; rw [Hp.bG]; omega,⟨rfl,.inr ⟨H3.next,rfl,Za,true,Hp.aA _ _⟩⟩⟩,hM3.ext (aC.lay _ _)⟩,rfl⟩
 rintro ⟨st4,H4⟩ φ4 _ ⟨rfl,hd4,hs4⟩
 dsimp only at hd4 hs4 ⊢
 conv=>whnf
 refine ak.cut (α:=Unit) (fun _=>[(9,int (-1)),(8,st4),(7,bK M),(3,ptr (h.next + 1) 0),(2,ptr h.next 0)]) (fun _ H5=>H4 = H5) ?_ ?_
 ·conv=>whnf
  exact ⟨(),⟨rfl,rfl,rfl,rfl,rfl,trivial⟩,rfl,rfl⟩
 rintro _ φ5 _ rfl
 conv=>whnf
 refine ak.go ?_
 conv=>whnf
 refine ak.cut (α:=Int×Value×List En×Hp) (fun s=>[(9,int s.1),(8,s.2.1),(3,ptr (h.next + 1) 0),(2,ptr h.next 0)]) (fun s H5=>s.2.2.2 = H5∧DM h s.2.2.2 M bxa bxb s.2.1 s.2.2.1∧((s.1 = -1∧Mac.Alike a b 0 0)∨∃ (i:Nat) (S:List Nat) (x:En),s.1 = i∧Df a b s.2.2.1 S i 0∧s.2.2.1[i]? = some x∧¬ pF a b x.p)) ?_ ?_
 ·conv=>whnf
  refine ak.go ?_
  conv=>whnf
  refine bQ (α:=Nat×List Nat×Value×List En×Hp) (fun s=>[(10,int s.1),(9,int (-1)),(8,s.2.2.1),(7,bK M),(3,ptr (h.next + 1) 0),(2,ptr h.next 0)]) (fun s=>s.2.2.2.2) (fun s=>Df a b s.2.2.2.1 s.2.1 s.1 0∧DM h s.2.2.2.2 M bxa bxb s.2.2.1 s.2.2.2.1∧s.1≤s.2.2.2.1.length∧zi s.2.2.2.2 M (s.2.2.2.1.map (·.p))) (fun s=>30000001 - s.1) (0,[0],st4,[⟨(0,0),-1,0⟩],H4) ⟨Df.start ha hb,hd4,Nat.zero_le _,hs4⟩ ⟨rfl,rfl,rfl,rfl,rfl,rfl,trivial⟩ (Hp.Le.refl _) ?_
  rintro ⟨i,S,st,T,H5⟩ φ6 ⟨hdf,hdm,hil,hsm⟩
  dsimp only at hdf hdm hil hsm ⊢
  have QL:=few hdf
  have hsk:=hdm.l.slice
  obtain ⟨as5,rfl,-⟩:=hsk
  conv=>whnf
  repeat (refine ak.go ?_; conv=>whnf)
  refine dB (fun q1=>?_) (fun q1=>?_)
  rotate_left
  ·have hle:T.length≤i:=by omega
   conv=>whnf
   exact ⟨(-1,_,T,H5),⟨rfl,rfl,rfl,rfl,trivial⟩,⟨rfl,hdm,.inl ⟨rfl,hdf.alike hle⟩⟩,rfl⟩
  have hiT:i < T.length:=by omega
  have XH:∃ x,T[i]? = some x:=⟨_,List.getElem?_eq_getElem hiT⟩
  obtain ⟨x,hx⟩:=XH
  have hsl:i < S.length:=by have:=hdf.len; omega
  have tF:∃ s,S[i]? = some s:=⟨_,List.getElem?_eq_getElem hsl⟩
  obtain ⟨s0,hs0⟩:=tF
  have hxm:=iX.1 (hdf.mem x (List.mem_of_getElem? hx))
  have IQ:∃ u:Nat,x.p.1 = u:=⟨x.p.1.toNat,by omega⟩
  obtain ⟨u,eu⟩:=IQ
  have aaN:∃ v:Nat,x.p.2 = v:=⟨x.p.2.toNat,by omega⟩
  obtain ⟨v,ev⟩:=aaN
  have hdc:=hdm.cell hx
  obtain ⟨rs,ers,hcc,-,-⟩:=hdc
  cases ers
  rw [eu,ev] at hcc hxm
  conv=>whnf
  refine ak.cut (α:=List Nat×Value×List En×Hp) (fun s=>[(10,int i),(9,int (-1)),(8,s.2.1),(7,bK M),(3,ptr (h.next + 1) 0),(2,ptr h.next 0)]) (fun s H6=>s.2.2.2 = H6∧Df a b s.2.2.1 s.1 (i + 1) 0∧DM h s.2.2.2 M bxa bxb s.2.1 s.2.2.1∧i + 1≤s.2.2.1.length∧zi s.2.2.2 M (s.2.2.1.map (·.p))) ?_ ?_
  rotate_left
  ·rintro ⟨S6,st6,T6,H6⟩ φ7 _ ⟨rfl,abK,Mg,abL,abM⟩
   dsimp only at abK Mg abL abM ⊢
   conv=>whnf
   refine ⟨((i + 1:Nat):Int),wie (by omega) (by omega),?_⟩
   conv=>whnf
   exact Rnd.mk (i + 1,S6,st6,T6,H6) ⟨abK,Mg,abL,abM⟩ (by show 30000001 - (i + 1) < 30000001 - i; omega) ⟨rfl,rfl,rfl,rfl,rfl,rfl,trivial⟩ (Hp.Le.refl _) rfl
  conv=>whnf
  refine ak.cut (α:=Nat×Hp) (fun s=>[(11,ptr s.1 0),(10,int i),(9,int (-1)),(8,slc rs 0 T.length T.length),(7,bK M),(3,ptr (h.next + 1) 0),(2,ptr h.next 0)]) (fun s H6=>s.2 = H6∧aC H5 s.2∧s.2.at s.1 = some (.row 106 true [int u,int v])∧H5.next≤s.1) ?_ ?_
  ·conv=>whnf
   refine ⟨rfl,⟨by omega,by omega⟩,?_⟩
   conv=>whnf
   refine ⟨_,hcc,?_⟩
   conv=>whnf
   refine ⟨rfl,_,cK (vs:=[int u,int v]) rfl rfl rfl,?_⟩
   conv=>whnf
   exact ⟨(H5.next,_),⟨rfl,rfl,rfl,rfl,rfl,rfl,rfl,trivial⟩,⟨rfl,aC.lay _ _,Hp.aA _ _,Nat.le_refl _⟩,rfl⟩
  rintro ⟨K,H6⟩ φ7 _ ⟨rfl,g6,aK,hK⟩
  dsimp only at g6 aK hK ⊢
  have Mg:=hdm.ext g6
  have ac3:ad (slc rs 0 T.length T.length)≠some K:=fun e=>by
   have:=(hdm.l.jf rs rfl).2
   cases e
   omega
  have kxa:=XG H6 h.next 25 Mg.gr Mg.xa
  have kxb:=Ze H6 (h.next + 1) 25 Mg.gr Mg.xb
  have ca1:cellAt H6 h.next 1 = some (.slice aoa a.out.length coa):=kxa.c1
  have cb1:cellAt H6 (h.next + 1) 1 = some (.slice aob b.out.length cob):=kxb.c1
  have k0:cellAt H6 K 0 = some (int u):=aQ aK rfl
  have k1:cellAt H6 K 1 = some (int v):=aQ aK rfl
  have hoa:=kxa.EY (s:=u) (by omega)
  obtain ⟨r1,o1,sp1,rfl,hsp1,ac4⟩:=hoa
  have hob:=kxb.EY (s:=v) (by omega)
  obtain ⟨r2,o2,sp2,rfl,hsp2,ac5⟩:=hob
  have ZN:pF a b x.p↔a.o u = b.o v:=by unfold pF; rw [eu,ev,Int.toNat_natCast,Int.toNat_natCast]
  conv=>whnf
  refine ak.cut (α:=Unit) (fun _=>[(11,ptr K 0),(10,int i),(9,int (-1)),(8,slc rs 0 T.length T.length),(7,bK M),(3,ptr (h.next + 1) 0),(2,ptr h.next 0)]) (fun _ H7=>H6 = H7∧pF a b x.p) ?_ ?_
  ·conv=>whnf
   refine ak.go ?_
   conv=>whnf
   refine ⟨_,ca1,?_⟩
   conv=>whnf
   refine ⟨_,k0,?_⟩
   conv=>whnf
   refine ⟨hsp1,⟨by omega,by omega⟩,?_⟩
   conv=>whnf
   refine ⟨_,ac4,?_⟩
   conv=>whnf
   refine ⟨_,cb1,?_⟩
   conv=>whnf
   refine ⟨_,k1,?_⟩
   conv=>whnf
   refine ⟨hsp2,⟨by omega,by omega⟩,?_⟩
   conv=>whnf
   refine ⟨_,ac5,?_⟩
   conv=>whnf
   refine dB (fun q2=>?_) (fun q2=>?_)
   ·conv=>whnf
    refine ak.go ?_
    conv=>whnf
    exact ⟨(i,_,T,H6),⟨rfl,rfl,rfl,rfl,trivial⟩,⟨rfl,Mg,.inr ⟨i,S,x,rfl,hdf,hx,fun q=>q2 (ZN.1 q)⟩⟩,rfl⟩
   ·conv=>whnf
    exact ⟨(),⟨rfl,rfl,rfl,rfl,rfl,rfl,rfl,trivial⟩,⟨rfl,ZN.2 (Classical.byContradiction q2)⟩,rfl⟩
  rintro _ φ8 _ ⟨rfl,hsame⟩
  have ca0:cellAt H6 h.next 0 = some (int (a.base:Int)):=kxa.c0
  conv=>whnf
  refine ak.go ?_
  conv=>whnf
  refine ⟨_,ca0,?_⟩
  conv=>whnf
  refine bQ (α:=Nat×List Nat×Value×List En×Hp) (fun s=>[(50,int s.1),(49,int a.base),(11,ptr K 0),(10,int i),(9,int (-1)),(8,s.2.2.1),(7,bK M),(3,ptr (h.next + 1) 0),(2,ptr h.next 0)]) (fun s=>s.2.2.2.2) (fun s=>s.1≤a.base∧Df a b s.2.2.2.1 s.2.1 i s.1∧DM h s.2.2.2.2 M bxa bxb s.2.2.1 s.2.2.2.1∧s.2.2.2.1[i]? = some x∧s.2.1[i]? = some s0∧s.2.2.2.2.at K = some (.row 106 true [int u,int v])∧ad s.2.2.1≠some K∧zi s.2.2.2.2 M (s.2.2.2.1.map (·.p))) (fun s=>a.base - s.1) (0,S,slc rs 0 T.length T.length,T,H6) ⟨Nat.zero_le _,hdf,Mg,hx,hs0,aK,ac3,hsm.ext g6⟩ ⟨rfl,rfl,rfl,rfl,rfl,rfl,rfl,rfl,rfl,trivial⟩ (Hp.Le.refl _) ?_
  rintro ⟨d,S7,st7,T7,H7⟩ φ9 ⟨hd,XI,Mh,hx7,hs7,aK7,aaO,aaP⟩
  dsimp only at hd XI Mh hx7 hs7 aK7 aaO aaP ⊢
  have abN:=few XI
  have ac6:=Mh.l.slice
  obtain ⟨as7,rfl,-⟩:=ac6
  have adV:=(List.getElem?_eq_some_iff.1 hx7).1
  conv=>whnf
  repeat (refine ak.go ?_; conv=>whnf)
  refine dB (fun q2=>?_) (fun q2=>?_)
  rotate_left
  ·have:d = a.base:=by omega
   subst this
   conv=>whnf
   exact ⟨(S7,_,T7,H7),⟨rfl,rfl,rfl,rfl,rfl,rfl,trivial⟩,⟨rfl,XI.turn hx7 hsame,Mh,by show i + 1≤T7.length; omega,aaP⟩,rfl⟩
  have hdb:d < a.base:=by omega
  have abO:=XG H7 h.next 25 Mh.gr Mh.xa
  have abP:=Ze H7 (h.next + 1) 25 Mh.gr Mh.xb
  have ca2:=abO.c2
  have cb2:=abP.c2
  have k70:cellAt H7 K 0 = some (int u):=aQ aK7 rfl
  have k71:cellAt H7 K 1 = some (int v):=aQ aK7 rfl
  have hna:=abO.lG ha (s:=u) (d:=d) (by omega) hdb
  obtain ⟨p1,p2,p3,p4,p5,p6,p7,rfl,hp3,XJ,hp6,XK⟩:=hna
  have hnb:=abP.lG hb (s:=v) (d:=d) (by omega) (by omega)
  obtain ⟨w1,w2,w3,w4,w5,w6,w7,rfl,hw3,UL,hw6,XL⟩:=hnb
  rw [← hbb] at UL
  have enx:kr a b x.p d = (((a.nx u d:Nat):Int),((b.nx v d:Nat):Int)):=by unfold kr; rw [eu,ev,Int.toNat_natCast,Int.toNat_natCast]
  have hstep:∃ t,kr a b x.p d = t:=⟨_,rfl⟩
  obtain ⟨t,et⟩:=hstep
  have hadd:=XI.add ha hb hbb hx7 hs7 hdb
  have ZO:=XI.skip hx7 hs7
  rw [et] at hadd ZO enx
  have OC:Value.agg ⟨[int (a.nx u d:Nat),int (b.nx v d:Nat)]⟩ = dH t:=by rw [enx]; rfl
  conv=>whnf
  refine ak.go ?_
  conv=>whnf
  refine ak.cut (α:=List Nat×Value×List En×Hp) (fun s=>[(50,int d),(49,int a.base),(11,ptr K 0),(10,int i),(9,int (-1)),(8,s.2.1),(7,bK M),(3,ptr (h.next + 1) 0),(2,ptr h.next 0)]) (fun s H8=>s.2.2.2 = H8∧Df a b s.2.2.1 s.1 i (d + 1)∧DM h s.2.2.2 M bxa bxb s.2.1 s.2.2.1∧s.2.2.1[i]? = some x∧s.1[i]? = some s0∧s.2.2.2.at K = some (.row 106 true [int u,int v])∧ad s.2.1≠some K∧zi s.2.2.2 M (s.2.2.1.map (·.p))) ?_ ?_
  rotate_left
  ·rintro ⟨S8,st8,T8,H8⟩ E5 _ ⟨rfl,abQ,Jv,hx8,hs8,aK8,abR,Zf⟩
   dsimp only at abQ Jv hx8 hs8 aK8 abR Zf ⊢
   conv=>whnf
   refine ⟨((d + 1:Nat):Int),wie (by omega) (by omega),?_⟩
   conv=>whnf
   exact Rnd.mk (d + 1,S8,st8,T8,H8) ⟨by show d + 1≤a.base; omega,abQ,Jv,hx8,hs8,aK8,abR,Zf⟩ (by show a.base - (d + 1) < a.base - d; omega) ⟨rfl,rfl,rfl,rfl,rfl,rfl,rfl,rfl,rfl,trivial⟩ (Hp.Le.refl _) rfl
  have gl1:aC H7 (H7.lay (.row 106 true [int 0,int 0])):=aC.lay _ _
  have gl2:aC H7 (H7.lay (.row 106 true [int (a.nx u d:Nat),int (b.nx v d:Nat)])):=aC.lay _ _
  have f1:=gl1.cell ca2
  have f2:=gl1.cell cb2
  have f3:=gl1.cell k70
  have f4:=gl1.cell k71
  have f5:=gl1.cell XJ
  have f6:=gl1.cell XK
  have f7:=gl1.cell UL
  have f8:=gl1.cell XL
  have s1:=gl2.cell ca2
  have s2:=gl2.cell cb2
  have s3:=gl2.cell k70
  have s4:=gl2.cell k71
  have s5:=gl2.cell XJ
  have s6:=gl2.cell XK
  have s7:=gl2.cell UL
  have s8:=gl2.cell XL
  conv=>whnf
  refine ak.go ?_
  conv=>whnf
  refine ak.cut (α:=Nat×Hp) (fun s=>[(13,ptr s.1 0),(12,int d),(50,int d),(49,int a.base),(11,ptr K 0),(10,int i),(9,int (-1)),(8,.slice as7 T7.length T7.length),(7,bK M),(3,ptr (h.next + 1) 0),(2,ptr h.next 0)]) (fun s H8=>s.2 = H8∧aC H7 s.2∧s.2.at s.1 = some (.row 106 true [int (a.nx u d:Nat),int (b.nx v d:Nat)])∧H7.next≤s.1) ?_ ?_
  ·conv=>whnf
   refine ⟨_,ca2,?_⟩
   conv=>whnf
   refine ⟨_,k70,?_⟩
   conv=>whnf
   refine ⟨hp3,⟨by omega,by omega⟩,?_⟩
   conv=>whnf
   refine ⟨_,XJ,?_⟩
   conv=>whnf
   refine ⟨hp6,⟨by omega,by omega⟩,?_⟩
   conv=>whnf
   refine ⟨_,XK,?_⟩
   conv=>whnf
   refine ⟨_,cb2,?_⟩
   conv=>whnf
   refine ⟨_,k71,?_⟩
   conv=>whnf
   refine ⟨hw3,⟨by omega,by omega⟩,?_⟩
   conv=>whnf
   refine ⟨_,UL,?_⟩
   conv=>whnf
   refine ⟨hw6,⟨by omega,by omega⟩,?_⟩
   conv=>whnf
   refine ⟨_,XL,?_⟩
   conv=>whnf
   refine ⟨rfl,_,cK (vs:=[int (a.nx u d:Nat),int (b.nx v d:Nat)]) rfl rfl rfl,?_⟩
   conv=>whnf
   refine ⟨?_,?_⟩
   ·repeat' (first | exact True.intro | (refine And.intro ?_ ?_ <;> (conv=>whnf)))
    all_goals first
     | exact aj (h2:=_) rfl (aI _)
     | exact aj (h2:=_) rfl (dh _ _)
     | exact aj (h2:=_) rfl (aD _ _ _)
     | exact aj (h2:=_) rfl (iP _ _)
     | exact aj (h2:=_) (congrArg (hval _) ca2) (aI _)
     | exact aj (h2:=_) (congrArg (hval _) ca2) (aD _ _ _)
     | exact aj (h2:=_) (congrArg (hval _) cb2) (aI _)
     | exact aj (h2:=_) (congrArg (hval _) cb2) (aD _ _ _)
     | exact aj (h2:=_) (congrArg (hval _) k70) (aI _)
     | exact aj (h2:=_) (congrArg (hval _) k70) (aD _ _ _)
     | exact aj (h2:=_) (congrArg (hval _) k71) (aI _)
     | exact aj (h2:=_) (congrArg (hval _) k71) (aD _ _ _)
     | exact aj (h2:=_) (congrArg (hval _) XJ) (aI _)
     | exact aj (h2:=_) (congrArg (hval _) XJ) (aD _ _ _)
     | exact aj (h2:=_) (congrArg (hval _) XK) (aI _)
     | exact aj (h2:=_) (congrArg (hval _) XK) (aD _ _ _)
     | exact aj (h2:=_) (congrArg (hval _) UL) (aI _)
     | exact aj (h2:=_) (congrArg (hval _) UL) (aD _ _ _)
     | exact aj (h2:=_) (congrArg (hval _) XL) (aI _)
     | exact aj (h2:=_) (congrArg (hval _) XL) (aD _ _ _)
     | exact aj (h2:=_) (congrArg (hval _) f1) (aI _)
     | exact aj (h2:=_) (congrArg (hval _) f1) (aD _ _ _)
     | exact aj (h2:=_) (congrArg (hval _) f2) (aI _)
     | exact aj (h2:=_) (congrArg (hval _) f2) (aD _ _ _)
     | exact aj (h2:=_) (congrArg (hval _) f3) (aI _)
     | exact aj (h2:=_) (congrArg (hval _) f3) (aD _ _ _)
     | exact aj (h2:=_) (congrArg (hval _) f4) (aI _)
     | exact aj (h2:=_) (congrArg (hval _) f4) (aD _ _ _)
     | exact aj (h2:=_) (congrArg (hval _) f5) (aI _)
     | exact aj (h2:=_) (congrArg (hval _) f5) (aD _ _ _)
     | exact aj (h2:=_) (congrArg (hval _) f6) (aI _)
     | exact aj (h2:=_) (congrArg (hval _) f6) (aD _ _ _)
     | exact aj (h2:=_) (congrArg (hval _) f7) (aI _)
     | exact aj (h2:=_) (congrArg (hval _) f7) (aD _ _ _)
     | exact aj (h2:=_) (congrArg (hval _) f8) (aI _)
     | exact aj (h2:=_) (congrArg (hval _) f8) (aD _ _ _)
     | exact aj (h2:=_) (congrArg (hval _) s1) (aI _)
     | exact aj (h2:=_) (congrArg (hval _) s1) (aD _ _ _)
     | exact aj (h2:=_) (congrArg (hval _) s2) (aI _)
     | exact aj (h2:=_) (congrArg (hval _) s2) (aD _ _ _)
     | exact aj (h2:=_) (congrArg (hval _) s3) (aI _)
     | exact aj (h2:=_) (congrArg (hval _) s3) (aD _ _ _)
     | exact aj (h2:=_) (congrArg (hval _) s4) (aI _)
     | exact aj (h2:=_) (congrArg (hval _) s4) (aD _ _ _)
     | exact aj (h2:=_) (congrArg (hval _) s5) (aI _)
     | exact aj (h2:=_) (congrArg (hval _) s5) (aD _ _ _)
     | exact aj (h2:=_) (congrArg (hval _) s6) (aI _)
     | exact aj (h2:=_) (congrArg (hval _) s6) (aD _ _ _)
     | exact aj (h2:=_) (congrArg (hval _) s7) (aI _)
     | exact aj (h2:=_) (congrArg (hval _) s7) (aD _ _ _)
     | exact aj (h2:=_) (congrArg (hval _) s8) (aI _)
     | exact aj (h2:=_) (congrArg (hval _) s8) (aD _ _ _)
     | exact aj (h2:=_) (show hval _ (jU 1 (.slice (some ⟨_,_,_⟩) _ _) (int _)) = _ from eX hp3 ⟨by omega,by omega⟩) (dh _ _)
     | exact aj (h2:=_) (show hval _ (jU 1 (.slice (some ⟨_,_,_⟩) _ _) (int _)) = _ from eX hp6 ⟨by omega,by omega⟩) (dh _ _)
     | exact aj (h2:=_) (show hval _ (jU 1 (.slice (some ⟨_,_,_⟩) _ _) (int _)) = _ from eX hw3 ⟨by omega,by omega⟩) (dh _ _)
     | exact aj (h2:=_) (show hval _ (jU 1 (.slice (some ⟨_,_,_⟩) _ _) (int _)) = _ from eX hw6 ⟨by omega,by omega⟩) (dh _ _)
     | exact ⟨_,rfl,Hp.aA _ _,rfl⟩
   exact ⟨(H7.next,_),⟨rfl,rfl,rfl,rfl,rfl,rfl,rfl,rfl,rfl,rfl,rfl,trivial⟩,⟨rfl,aC.lay _ _,Hp.aA _ _,Nat.le_refl _⟩,rfl⟩
  rintro ⟨K2,H8⟩ E5 _ ⟨rfl,g8,aK2,hK2⟩
  dsimp only at g8 aK2 hK2 ⊢
  have Jv:=Mh.ext g8
  have aK8:=g8.at_ _ _ aK7
  have hm8:=aaP.ext g8
  have Zf:=hm8
  obtain ⟨n8,hm8⟩:=hm8
  have EZ:=Mh.ml
  by_cases hin:t ∈ T7.map (·.p)
  ·conv=>whnf
   refine ak.go ?_
   conv=>whnf
   refine ⟨_,aM aK2 rfl,?_⟩
   conv=>whnf
   refine gu tM dM t4 z4 yU (k:=t) rfl (by exact OC) hm8 (if_pos hin) ?_
   conv=>whnf
   exact ⟨(S7,_,T7,H8),⟨rfl,rfl,rfl,rfl,rfl,rfl,rfl,rfl,rfl,trivial⟩,⟨rfl,ZO hin,Jv,hx7,hs7,aK8,aaO,Zf⟩,rfl⟩
  ·have hadd:=hadd hin
   have jF:=few hadd
   have hKM:K≠M:=by have:=hdm.ml; omega
   conv=>whnf
   refine ak.go ?_
   conv=>whnf
   refine ⟨_,aM aK2 rfl,?_⟩
   conv=>whnf
   refine Iz tM dM t4 z4 yU (k:=t) rfl (by exact OC) hm8 (if_neg hin) ?_
   conv=>whnf
   refine ak.go ?_
   conv=>whnf
   refine ⟨_,aM aK2 rfl,?_⟩
   conv=>whnf
   refine iD tM dM yU (k:=t) (v:=.bool true) rfl (by exact OC) rfl hm8 ?_
   intro H9 hm9 y9
   have Sw:zi H9 M ((T7 ++ [(⟨t,(i:Int),(d:Int)⟩:En)]).map (·.p)):=⟨_,hm9.congr fun k=>by
    rw [List.map_append]
    by_cases e:k = t
    ·rw [if_pos e,if_pos (by rw [e]; simp)]
    ·rw [if_neg e]
     by_cases hk:k ∈ T7.map (·.p)
     ·rw [if_pos hk,if_pos (List.mem_append_left _ hk)]
     ·rw [if_neg hk,if_neg fun q=>by
       rcases List.mem_append.1 q with q | q
       ·exact hk q
       ·simp at q; exact e q]⟩
   have hMh:h.next≤M:=by omega
   have hl9:bD (EN (M + 1)) H9 133 4 (.slice as7 T7.length T7.length) T7.length (fl4 T7):=pz Jv.l fun r o hr ho=>y9.at_ _ _ (by
    have:=(Jv.l.jf r hr).1
    have:M + 1≤r:=this
    omega) ho
   have ac7:=y9.at_ _ _ (by omega) aK2
   have aK9:=y9.at_ _ _ hKM aK8
   have ac8:DM h H9 M bxa bxb (.slice as7 T7.length T7.length) T7:=⟨y9.grows Jv.gr hMh,y9.at_ _ _ (by omega) Jv.xa,y9.at_ _ _ (by omega) Jv.xb,by rw [y9.next]; exact Jv.ml,hl9⟩
   rw [enx] at Sw hadd
   conv=>whnf
   refine ⟨_,aM ac7 rfl,?_⟩
   conv=>whnf
   refine ac8.app (e:=⟨(((a.nx u d:Nat):Int),((b.nx v d:Nat):Int)),(i:Int),(d:Int)⟩) hM2 abN ?_
   intro aaK H10 jV abS abT abU
   obtain ⟨a10,n10,rfl⟩:=jV
   have wN:=abT.at_ aK9 aaO
   obtain ⟨nn,Sw⟩:=Sw
   have Zg:zi H10 M ((T7 ++ [(⟨(((a.nx u d:Nat):Int),((b.nx v d:Nat):Int)),(i:Int),(d:Int)⟩:En)]).map (·.p)):=⟨nn,Sw.R7 fun o ho=>abT.at_ ho fun e=>by
    have:=(hl9.jf M e).1
    have:M + 1≤M:=this
    omega⟩
   conv=>whnf
   refine ⟨(S7 ++ [s0 + 1],_,_,H10),⟨rfl,rfl,rfl,rfl,rfl,rfl,rfl,rfl,rfl,trivial⟩,⟨rfl,hadd,abS,kU hx7,kU hs7,wN,fun e=>?_,Zg⟩,rfl⟩
   have h1:=abU K e
   have h2:=Hp.aU aK9
   omega
 rintro ⟨fnd,st,T,H5⟩ φ6 _ ⟨rfl,hdm,hres⟩
 dsimp only at hdm hres ⊢
 have ka:=XG H5 h.next 25 hdm.gr hdm.xa
 have ca0:cellAt H5 h.next 0 = some (int (a.base:Int)):=ka.c0
 rcases hres with ⟨rfl,hal⟩ | ⟨i,S,x,rfl,hdf,hx,hns⟩
 ·conv=>whnf
  refine ak.go ?_
  conv=>whnf
  refine ak.go ?_
  conv=>whnf
  refine yG (by omega) ?_
  conv=>whnf
  refine ak.go ?_
  conv=>whnf
  exact ⟨⟨0,false,rfl,fun _=>⟨rfl,hal⟩,fun e=>by cases e⟩,hdm.gr⟩
 have QL:=few hdf
 have hsl:=(List.getElem?_eq_some_iff.1 hx).1
 have tF:∃ s,S[i]? = some s:=⟨_,List.getElem?_eq_getElem (by have:=hdf.len; omega)⟩
 obtain ⟨sF,hsF⟩:=tF
 have hxm:=iX.1 (hdf.mem x (List.mem_of_getElem? hx))
 have ac9:¬ Mac.Alike a b 0 0:=hdf.differ hx hns
 have aaQ:=aaM ha hb hbb ac9
 obtain ⟨w0,hw0,hwl,hwd⟩:=aaQ
 have adW:=hdf.least hsF hw0 hwd
 have hb1:=ha.b1
 have hsk:=hdm.l.slice
 obtain ⟨ast,rfl,-⟩:=hsk
 conv=>whnf
 refine ak.cut (α:=Unit) (fun _=>[(9,int i),(8,.slice ast T.length T.length),(2,ptr h.next 0)]) (fun _ H6=>H5 = H6) ?_ ?_
 ·conv=>whnf
  refine ak.go ?_
  conv=>whnf
  refine yH (by omega) ?_
  conv=>whnf
  exact ⟨(),⟨rfl,rfl,rfl,trivial⟩,rfl,rfl⟩
 rintro _ φ7 _ rfl
 conv=>whnf
 refine ak.go ?_
 conv=>whnf
 refine ak.cut (α:=Int×List Nat) (fun s=>[(14,int s.1)]) (fun s H6=>H5 = H6∧Mac.Wd a.base s.2∧s.2.length≤a.out.length + b.out.length∧a.o (a.run 0 s.2)≠b.o (b.run 0 s.2)∧(a.out.length + b.out.length≤26→s.1 = val a.base s.2)) ?_ ?_
 rotate_left
 ·rintro ⟨n,v⟩ φ8 _ ⟨rfl,h1,h2,h3,h4⟩
  dsimp only at h1 h2 h3 h4 ⊢
  conv=>whnf
  refine ak.go ?_
  conv=>whnf
  exact ⟨⟨n,true,rfl,fun e=>(by cases e),fun _=>⟨v,h1,h2,h3,h4⟩⟩,hdm.gr⟩
 conv=>whnf
 refine ak.go ?_
 conv=>whnf
 refine bQ (α:=Nat×Int×List Nat×En×Nat) (fun s=>[(15,int s.1),(14,int s.2.1),(8,.slice ast T.length T.length),(2,ptr h.next 0)]) (fun _=>H5) (fun s=>T[s.1]? = some s.2.2.2.1∧S[s.1]? = some s.2.2.2.2∧Mac.Wd a.base s.2.2.1∧s.2.2.1.length + s.2.2.2.2 = sF∧wG (kr a b) s.2.2.2.1.p s.2.2.1 = x.p∧(a.out.length + b.out.length≤26→s.2.1 = val a.base s.2.2.1)) (fun s=>s.1) (i,0,[],x,sF) ⟨hx,hsF,by simp [Mac.Wd],by simp,rfl,fun _=>rfl⟩ ⟨rfl,rfl,rfl,rfl,trivial⟩ (Hp.Le.refl _) ?_
 rintro ⟨c,n,v,e,t⟩ φ8 ⟨hc,ht,hv,hvl,hrun,hval⟩
 dsimp only at hc ht hv hvl hrun hval ⊢
 have hcl:=(List.getElem?_eq_some_iff.1 hc).1
 have hcc:=hdm.cell hc
 obtain ⟨rs,ers,-,hc2,hc3⟩:=hcc
 cases ers
 conv=>whnf
 refine ak.go ?_
 conv=>whnf
 refine ⟨rfl,⟨by omega,by omega⟩,?_⟩
 conv=>whnf
 refine ⟨_,hc2,?_⟩
 conv=>whnf
 by_cases h0:c = 0
 ·subst h0
  have hf:=hdf.first
  obtain ⟨e0,h1,h2,h3⟩:=hf
  rw [hc] at h1
  cases h1
  have ht0:=hdf.s0
  rw [ht] at ht0
  cases ht0
  refine yH (by omega) ?_
  conv=>whnf
  refine ⟨(n,v),⟨rfl,trivial⟩,⟨rfl,hv,by show v.length≤_; omega,?_,hval⟩,rfl⟩
  dsimp only
  rw [h2] at hrun
  have e3:((0:Int),(0:Int)) = (((0:Nat):Int),((0:Nat):Int)):=rfl
  rw [e3,QU] at hrun
  intro q
  refine hns ?_
  rw [← hrun]
  unfold pF
  rw [Int.toNat_natCast,Int.toNat_natCast]
  exact q
 ·have hp:=hdf.par c e (by omega) hc
  obtain ⟨k,g,e',s',h1,h2,h3,h4,h5,h6,h7,h8⟩:=hp
  rw [ht] at h8
  have h8:t = s' + 1:=by injection h8
  refine yG (by omega) ?_
  have adX:=Qy hb1 (Mac.Wd.cons h4 hv)
  have ecv:val a.base (g :: v) = g + a.base * val a.base v:=rfl
  conv=>whnf
  refine ak.go ?_
  conv=>whnf
  refine ⟨_,ca0,?_⟩
  conv=>whnf
  refine ⟨_,abH _ _,?_⟩
  conv=>whnf
  refine ⟨rfl,⟨by omega,by omega⟩,?_⟩
  conv=>whnf
  refine ⟨_,hc3,?_⟩
  conv=>whnf
  refine ⟨_,abH _ _,?_⟩
  conv=>whnf
  refine ⟨rfl,⟨by omega,by omega⟩,?_⟩
  conv=>whnf
  refine ⟨_,hc2,?_⟩
  conv=>whnf
  rw [h1,h2]
  refine Rnd.mk (k,jT .i64 (jT .i64 (n * a.base) + g),g :: v,e',s') ⟨h5,h7,Mac.Wd.cons h4 hv,by show (g :: v).length + s' = sF; rw [List.length_cons]; omega,?_,fun hN=>?_⟩ (by show k < c; exact h3) ⟨rfl,rfl,rfl,rfl,trivial⟩ (Hp.Le.refl _) rfl
  ·show wG (kr a b) (kr a b e'.p g) v = x.p
   rw [← h6]; exact hrun
  ·have hn:=hval hN
   have hpw:=abI (b:=a.base) (k:=(g :: v).length) hb5 (by rw [List.length_cons]; omega) hb1
   have e1:n * (a.base:Int) = ((a.base * val a.base v:Nat):Int):=by rw [hn,Int.natCast_mul,Int.mul_comm]
   show jT .i64 (jT .i64 (n * a.base) + g) = ((val a.base (g :: v):Nat):Int)
   have XF:∃ m,a.base * val a.base v = m:=⟨_,rfl⟩
   obtain ⟨m,em⟩:=XF
   rw [em] at e1 ecv
   have e2:jT .i64 ((m:Nat):Int) = (m:Int):=qX (by omega)
   have e3:jT .i64 ((m:Int) + g) = (m:Int) + g:=qX (by omega)
   rw [e1,e2,e3,ecv]
   omega
end
end Go.Proofs.Ytedneplaibmppaa
namespace Go.Proofs.Ytedneplaibmppaa
open Go.Rx Go.RowKit
def jm (m:Mac) (q p:Nat):Prop:=∀ n,m.at_ 0 (n + q) = m.at_ 0 (n + q + p)
theorem sM {m:Mac} (hm:OkS m) (q p:Nat):Mac.Alike (m.every 1 q) (m.every 1 (q + p)) 0 0↔jm m q p:=by
 have h1:=Mac.pE hm.ok 1 q
 have h2:=Mac.pE hm.ok 1 (q + p)
 rw [Mac.Oj h1.1 h2.1 hm.b2 rfl (Mac.Ef hm.ok hm.b2 hm.zer 1 q) (Mac.Ef hm.ok hm.b2 hm.zer 1 (q + p)) h1.1.n1 h2.1.n1]
 constructor
 ·intro h n
  have:=h n
  rw [Mac.zh hm.ok hm.b2 hm.zer,Mac.zh hm.ok hm.b2 hm.zer,Nat.one_mul] at this
  rw [this,Nat.add_assoc]
 ·intro h n
  rw [Mac.zh hm.ok hm.b2 hm.zer,Mac.zh hm.ok hm.b2 hm.zer,Nat.one_mul,h n,Nat.add_assoc]
def jN (m:Mac) (p:Nat):Nat→Nat
 | 0=>0
 | q + 1=>if m.at_ 0 q = m.at_ 0 (q + p) then jN m p q else q + 1
theorem OQ (n:Int):eqI n n = true:=by unfold eqI; cases n <;> simp
theorem Km (n:Int) (a a':Option Addr) (l c l' c':Nat):fF 4 (.agg ⟨[int n,.slice a l c,.slice a' l' c']⟩) (.agg ⟨[int n,.slice a l c,.slice a' l' c']⟩) = true:=by
 simp [fF,OQ]
theorem Bx.same {h:Hp} {bx:List Value} {M:jL} (k:Bx h bx M):fF 4 (.agg ⟨bx⟩) (.agg ⟨bx⟩) = true:=by
 obtain ⟨hl,hb,⟨a,c,ho,_⟩,⟨a',c',hn,_⟩⟩:=k
 match bx,hl with
 | [x,y,z],_=>cases hb; cases ho; cases hn; exact Km _ _ _ _ _ _ _
def Sy (m:Mac) (r:Value):Prop:=(∃ p,1≤p∧p≤30∧jm m 60 p∧(∀ p',1≤p'→p' < p→¬ jm m 60 p')∧r = .tuple ⟨[int (jN m p 60:Nat),int p,.bool true,int 0]⟩)∨((∀ p',1≤p'→p'≤30→¬ jm m 60 p')∧r = .tuple ⟨[int 0,int 0,.bool false,int 0]⟩)
theorem sN {x y r:Int} {h:Hp} (e:x + y = r) (b:-9223372036854775808≤r∧r < 9223372036854775808):hval h (arK .i64 .add x y) = .val (int r) h:=by
 unfold arK
 dsimp only
 rw [e,qX b]
 rfl
theorem wQ {x y r:Int} {h:Hp} (e:x - y = r) (b:-9223372036854775808≤r∧r < 9223372036854775808):hval h (arK .i64 .sub x y) = .val (int r) h:=by
 unfold arK
 dsimp only
 rw [e,qX b]
 rfl
theorem Zh {x y r:Int} {h:Hp} (e:x * y = r) (b:-9223372036854775808≤r∧r < 9223372036854775808):hval h (arK .i64 .mul x y) = .val (int r) h:=by
 unfold arK
 dsimp only
 rw [e,qX b]
 rfl
attribute [local irreducible] E iV cellAt bM storeAt callable dz dI dP findKey eD bT Hp.at Hp.set Hp.lay dO dw setAt aJ dA bO dG Rnd gD fK iN Int.tmod Int.tdiv Int.fdiv
section
variable [bE]
attribute [local irreducible] sameAt
theorem Dj (v:Value) (m:Mac) (q p:Nat) (h:Hp) (hv:MV h v m.i) (hm:OkS m) (hq:q≤100) (hp:p≤100):aJ E 77 [v,int q,int p] h (fun r h'=>(∃ b,r = .bool b∧bO b (jm m q p))∧aC h h'):=by
 obtain ⟨bx,rfl,hbx⟩:=hv.box
 have hlenx:=hbx.len
 have hsb:=hbx.same
 have tJ:=hm.n12
 have hb5:=hm.b5
 have e1:=Mac.pE hm.ok 1 q
 have e2:=Mac.pE hm.ok 1 (q + p)
 have l1:(m.every 1 q).out.length≤12 * 101:=Nat.le_trans e1.2 (Nat.mul_le_mul tJ (by omega))
 have l2:(m.every 1 (q + p)).out.length≤12 * 201:=Nat.le_trans e2.2 (Nat.mul_le_mul tJ (by omega))
 have lm:=Nat.mul_le_mul l1 l2
 refine enter77 (by simp) ?_
 conv=>whnf
 refine ak.cut (α:=Hp) (fun _=>[(3,ptr h.next 0),(1,int q),(2,int p)]) (fun x H=>x = H∧aC h H∧H.at h.next = some (.row 25 true bx)) ?_ ?_
 ·conv=>whnf
  exact ⟨_,⟨rfl,rfl,rfl,trivial⟩,⟨rfl,aC.lay _ _,Hp.aA _ _⟩,rfl⟩
 rintro H φ1 _ ⟨rfl,gH,aX⟩
 have c0:=aM aX hlenx
 conv=>whnf
 refine ak.cut (α:=Bool×Hp) (fun s=>[(8,.bool s.1)]) (fun s H2=>s.2 = H2∧aC H s.2∧bO s.1 (¬ jm m q p)) ?_ ?_
 ·conv=>whnf
  refine ⟨_,c0,?_⟩
  conv=>whnf
  refine aJ.mono (Bv _ m 1 q _ (Bx.mv (hbx.ext gH)) hm (by omega) (by omega)) ?_
  rintro w1 H1 ⟨hw1,g1⟩
  have c1:=g1.cells c0
  conv=>whnf
  refine ⟨_,c1,?_⟩
  conv=>whnf
  refine ⟨((q + p:Nat):Int),wie (by omega) (by omega),?_⟩
  conv=>whnf
  refine aJ.mono (Bv _ m 1 (q + p) _ (Bx.mv (hbx.ext (gH.trans g1))) hm (by omega) (by omega)) ?_
  rintro w2 H2 ⟨hw2,g2⟩
  have c2:=g2.cells c1
  conv=>whnf
  refine aJ.mono (UK _ _ (m.every 1 q) (m.every 1 (q + p)) _ (hw1.mv.ext g2) hw2.mv e1.1 e2.1 rfl hb5 (by omega)) ?_
  rintro r H3 ⟨⟨n,d,rfl,hd1,hd2⟩,g3⟩
  have c3:=g3.cells c2
  conv=>whnf
  refine ⟨?_,?_⟩
  ·repeat' (first | exact True.intro | (refine And.intro ?_ ?_ <;> (conv=>whnf)))
   all_goals first
    | exact aj (h2:=_) rfl (aI _)
    | exact aj (h2:=_) (congrArg (fun x=>hval _ (gV x)) c0) hsb
    | exact aj (h2:=_) (congrArg (fun x=>hval _ (gV x)) c1) hsb
    | exact aj (h2:=_) (congrArg (fun x=>hval _ (gV x)) c2) hsb
    | exact aj (h2:=_) (congrArg (fun x=>hval _ (gV x)) c3) hsb
    | exact aj (h2:=_) (show hval _ (arK .i64 .add _ _) = _ from sN (by omega) (by omega)) (aI _)
    | exact aj (h2:=_) (show hval _ (arK .i64 .sub _ _) = _ from wQ (by omega) (by omega)) (aI _)
  refine ⟨(d,H3),⟨rfl,trivial⟩,⟨rfl,(g1.trans g2).trans g3,?_⟩,rfl⟩
  dsimp only
  cases d with
  | false=>exact uT fun k=>k ((sM hm q p).1 (hd1 rfl).2)
  | true =>
   refine pU fun k=>?_
   obtain ⟨w,hw,_,hne,_⟩:=hd2 rfl
   exact hne ((sM hm q p).2 k w hw)
 rintro ⟨d,H2⟩ φ2 _ ⟨rfl,g2,hd⟩
 dsimp only at g2 hd ⊢
 cases d with
 | false =>
  conv=>whnf
  repeat (refine ak.go ?_; conv=>whnf)
  exact ⟨⟨true,rfl,pU (Classical.byContradiction hd.f)⟩,gH.trans g2⟩
 | true =>
  conv=>whnf
  repeat (refine ak.go ?_; conv=>whnf)
  exact ⟨⟨false,rfl,uT hd.t⟩,gH.trans g2⟩
theorem QV (v:Value) (m:Mac) (p:Nat) (h:Hp) (hv:MV h v m.i) (hm:OkS m) (hp:p≤100):aJ E 78 [v,int p] h (fun r h'=>r = int (jN m p 60:Nat)∧aC h h'):=by
 obtain ⟨bx,rfl,hbx⟩:=hv.box
 have hlenx:=hbx.len
 have hsb:=hbx.same
 have tJ:=hm.n12
 have hnn:=hm.n1
 refine enter78 (by simp) ?_
 conv=>whnf
 refine ak.cut (α:=Hp) (fun _=>[(2,ptr h.next 0),(1,int p)]) (fun x H=>x = H∧aC h H∧H.at h.next = some (.row 25 true bx)) ?_ ?_
 ·conv=>whnf
  exact ⟨_,⟨rfl,rfl,trivial⟩,⟨rfl,aC.lay _ _,Hp.aA _ _⟩,rfl⟩
 rintro H φ1 _ ⟨rfl,gH,aX⟩
 conv=>whnf
 refine ak.go ?_
 conv=>whnf
 refine ak.cut (α:=Hp) (fun _=>[(5,int (jN m p 60:Nat))]) (fun x H2=>x = H2∧aC h x) ?_ ?_
 rotate_left
 ·rintro H2 φ2 _ ⟨rfl,g2⟩
  conv=>whnf
  repeat (refine ak.go ?_; conv=>whnf)
  exact ⟨rfl,g2⟩
 conv=>whnf
 refine bQ (α:=Nat×Hp) (fun s=>[(5,int s.1),(2,ptr h.next 0),(1,int p)]) (fun s=>s.2) (fun s=>s.1≤60∧jN m p s.1 = jN m p 60∧aC H s.2) (fun s=>s.1) (60,H) ⟨Nat.le_refl _,rfl,.refl _⟩ ⟨rfl,rfl,rfl,trivial⟩ (Hp.Le.refl _) ?_
 rintro ⟨q,H3⟩ φ3 ⟨hq,hst,g3⟩
 dsimp only at hq hst g3 ⊢
 have c0:=g3.cells (aM aX hlenx)
 conv=>whnf
 refine ak.cut (α:=Hp) (fun s=>[(5,int q),(2,ptr h.next 0),(1,int p)]) (fun s H4=>s = H4∧aC H s∧∃ q',q = q' + 1∧jN m p q' = jN m p 60) ?_ ?_
 rotate_left
 ·rintro H4 φ4 _ ⟨rfl,g4,q',rfl,hq'⟩
  conv=>whnf
  refine ⟨((q':Nat):Int),wie (by omega) (by omega),?_⟩
  conv=>whnf
  exact Rnd.mk (q',H4) ⟨by show q'≤60; omega,hq',g4⟩ (by show q' < q' + 1; omega) ⟨rfl,rfl,rfl,trivial⟩ (Hp.Le.refl _) rfl
 conv=>whnf
 refine ak.go ?_
 conv=>whnf
 refine dB (fun q1=>?_) (fun q1=>?_)
 rotate_left
 ·have:q = 0:=by omega
  subst this
  conv=>whnf
  refine ⟨?_,?_⟩
  ·repeat' (first | exact True.intro | (refine And.intro ?_ ?_ <;> (conv=>whnf)))
   all_goals first
    | exact aj (h2:=_) rfl (aI _)
    | exact True.intro
    | exact aj (h2:=_) (show hval _ (arK .i64 .add _ _) = _ from sN (by omega) (by omega)) (aI _)
    | exact aj (h2:=_) (show hval _ (arK .i64 .sub _ _) = _ from wQ (by omega) (by omega)) (aI _)
  conv=>whnf
  exact ⟨H3,⟨by rw [← hst]; rfl,trivial⟩,⟨rfl,gH.trans g3⟩,rfl⟩
 have Bp:∃ q',q = q' + 1:=⟨q - 1,by omega⟩
 obtain ⟨q',rfl⟩:=Bp
 conv=>whnf
 refine ⟨_,c0,?_⟩
 conv=>whnf
 refine ⟨(q':Int),wie (by omega) (by omega),?_⟩
 conv=>whnf
 refine aJ.mono (FL _ m 0 q' _ (Bx.mv (hbx.ext (gH.trans g3))) hm.ok hm.b25 hnn (by omega) (by omega)) ?_
 rintro r H4 ⟨rfl,g4⟩
 have c1:=g4.cells c0
 conv=>whnf
 refine ⟨_,c1,?_⟩
 conv=>whnf
 refine ⟨(q':Int),wie (by omega) (by omega),?_⟩
 conv=>whnf
 refine ⟨((q' + p:Nat):Int),wie (by omega) (by omega),?_⟩
 conv=>whnf
 refine aJ.mono (FL _ m 0 (q' + p) _ (Bx.mv (hbx.ext ((gH.trans g3).trans g4))) hm.ok hm.b25 hnn (by omega) (by omega)) ?_
 rintro r H5 ⟨rfl,g5⟩
 have c2:=g5.cells c1
 have hok:jN m p (q' + 1) = if m.at_ 0 q' = m.at_ 0 (q' + p) then jN m p q' else q' + 1:=rfl
 conv=>whnf
 refine dB (fun q2=>?_) (fun q2=>?_)
 ·rw [if_pos q2] at hok
  conv=>whnf
  refine ⟨?_,?_⟩
  ·repeat' (first | exact True.intro | (refine And.intro ?_ ?_ <;> (conv=>whnf)))
   all_goals first
    | exact aj (h2:=_) rfl (aI _)
    | exact aj (h2:=_) (congrArg (fun x=>hval _ (gV x)) c0) hsb
    | exact aj (h2:=_) (congrArg (fun x=>hval _ (gV x)) c1) hsb
    | exact aj (h2:=_) (congrArg (fun x=>hval _ (gV x)) c2) hsb
    | exact aj (h2:=_) (show hval _ (arK .i64 .add _ _) = _ from sN (by omega) (by omega)) (aI _)
    | exact aj (h2:=_) (show hval _ (arK .i64 .sub _ _) = _ from wQ (by omega) (by omega)) (aI _)
  conv=>whnf
  exact ⟨H5,⟨rfl,rfl,rfl,trivial⟩,⟨rfl,(g3.trans g4).trans g5,q',rfl,by rw [← hok]; exact hst⟩,rfl⟩
 ·rw [if_neg q2] at hok
  conv=>whnf
  refine ⟨?_,?_⟩
  ·repeat' (first | exact True.intro | (refine And.intro ?_ ?_ <;> (conv=>whnf)))
   all_goals first
    | exact aj (h2:=_) rfl (aI _)
    | exact aj (h2:=_) (congrArg (fun x=>hval _ (gV x)) c0) hsb
    | exact aj (h2:=_) (congrArg (fun x=>hval _ (gV x)) c1) hsb
    | exact aj (h2:=_) (congrArg (fun x=>hval _ (gV x)) c2) hsb
    | exact aj (h2:=_) (show hval _ (arK .i64 .add _ _) = _ from sN (by omega) (by omega)) (aI _)
    | exact aj (h2:=_) (show hval _ (arK .i64 .sub _ _) = _ from wQ (by omega) (by omega)) (aI _)
  conv=>whnf
  exact ⟨H5,⟨by rw [← hst,hok]; rfl,trivial⟩,⟨rfl,gH.trans ((g3.trans g4).trans g5)⟩,rfl⟩
theorem zk (v:Value) (m:Mac) (h:Hp) (hv:MV h v m.i) (hm:OkS m):aJ E 33 [v] h (fun r h'=>Sy m r∧aC h h'):=by
 obtain ⟨bx,rfl,hbx⟩:=hv.box
 have hlenx:=hbx.len
 have hL:=hm.lens
 refine enter33 (by simp) ?_
 conv=>whnf
 refine ak.cut (α:=Hp) (fun _=>[(1,ptr h.next 0)]) (fun x H=>x = H∧aC h H∧H.at h.next = some (.row 25 true bx)) ?_ ?_
 ·conv=>whnf
  exact ⟨_,⟨rfl,trivial⟩,⟨rfl,aC.lay _ _,Hp.aA _ _⟩,rfl⟩
 rintro H φ1 _ ⟨rfl,gH,aX⟩
 conv=>whnf
 refine ak.cut (α:=Hp) (fun _=>[(1,ptr h.next 0)]) (fun x H2=>x = H2∧aC H H2) ?_ ?_
 ·conv=>whnf
  refine ak.go ?_
  conv=>whnf
  refine ⟨_,aM aX hbx.len,?_⟩
  conv=>whnf
  refine aJ.mono (om _ m.i _ (Bx.mv (hbx.ext gH)) hL.1 hL.2.1 hL.2.2) ?_
  rintro r H2 ⟨⟨e,rfl,he,-⟩,g2⟩
  have he:=he hm.ck
  subst he
  conv=>whnf
  repeat (refine ak.go ?_; conv=>whnf)
  refine yH (by omega) ?_
  conv=>whnf
  exact ⟨_,⟨rfl,trivial⟩,⟨rfl,g2⟩,rfl⟩
 rintro H2 φ2 _ ⟨rfl,g2⟩
 have gh2:=gH.trans g2
 conv=>whnf
 refine ak.cut (α:=Hp) (fun _=>[]) (fun x H3=>x = H3∧aC h x∧∀ p',1≤p'→p'≤30→¬ jm m 60 p') ?_ ?_
 rotate_left
 ·rintro H3 φ3 _ ⟨rfl,g3,hno⟩
  conv=>whnf
  repeat (refine ak.go ?_; conv=>whnf)
  exact ⟨.inr ⟨hno,rfl⟩,g3⟩
 conv=>whnf
 refine ak.go ?_
 conv=>whnf
 refine bQ (α:=Nat×Hp) (fun s=>[(3,int s.1),(1,ptr h.next 0)]) (fun s=>s.2) (fun s=>1≤s.1∧s.1≤31∧aC H s.2∧∀ p',1≤p'→p' < s.1→¬ jm m 60 p') (fun s=>31 - s.1) (1,H2) ⟨Nat.le_refl _,by omega,g2,fun p' h1 h2=>by omega⟩ ⟨rfl,rfl,trivial⟩ (Hp.Le.refl _) ?_
 rintro ⟨p,H3⟩ φ3 ⟨hp1,aaR,g3,hno⟩
 dsimp only at hp1 aaR g3 hno ⊢
 have c0:=g3.cells (aM aX hlenx)
 conv=>whnf
 repeat (refine ak.go ?_; conv=>whnf)
 refine dB (fun q1=>?_) (fun q1=>?_)
 rotate_left
 ·conv=>whnf
  exact ⟨H3,trivial,⟨rfl,gH.trans g3,fun p' h1 h2=>hno p' h1 (by omega)⟩,rfl⟩
 conv=>whnf
 refine ak.cut (α:=Hp) (fun s=>[(3,int p),(1,ptr h.next 0)]) (fun s H4=>s = H4∧aC H s∧¬ jm m 60 p) ?_ ?_
 rotate_left
 ·rintro H4 φ4 _ ⟨rfl,g4,hnp⟩
  conv=>whnf
  refine ⟨((p + 1:Nat):Int),wie (by omega) (by omega),?_⟩
  conv=>whnf
  exact Rnd.mk (p + 1,H4) ⟨by show 1≤p + 1; omega,by show p + 1≤31; omega,g4,fun p' h1 h2=>by
   have h2:p' < p + 1:=h2
   by_cases e:p' = p
   ·rw [e]; exact hnp
   ·exact hno p' h1 (by omega)⟩ (by show 31 - (p + 1) < 31 - p; omega) ⟨rfl,rfl,trivial⟩ (Hp.Le.refl _) rfl
 conv=>whnf
 refine ak.go ?_
 conv=>whnf
 refine ⟨_,c0,?_⟩
 conv=>whnf
 refine aJ.mono (Dj _ m 60 p _ (Bx.mv (hbx.ext (gH.trans g3))) hm (by omega) (by omega)) ?_
 rintro r H4 ⟨⟨b,rfl,hb⟩,g4⟩
 have c1:=g4.cells c0
 cases b with
 | false =>
  conv=>whnf
  exact ⟨H4,⟨rfl,rfl,trivial⟩,⟨rfl,g3.trans g4,hb.f⟩,rfl⟩
 | true =>
  conv=>whnf
  refine ak.go ?_
  conv=>whnf
  refine ⟨_,c1,?_⟩
  conv=>whnf
  refine aJ.mono (QV _ m p _ (Bx.mv (hbx.ext ((gH.trans g3).trans g4))) hm (by omega)) ?_
  rintro r H5 ⟨rfl,g5⟩
  conv=>whnf
  exact ⟨.inl ⟨p,hp1,by omega,hb.t,hno,rfl⟩,((gH.trans g3).trans g4).trans g5⟩
end
end Go.Proofs.Ytedneplaibmppaa
namespace Go.Proofs.Ytedneplaibmppaa
open Go.Rx Go.RowKit
def iF (L f n:Nat):Nat:=if n < f then n else f + (n - f) % (L - f)
theorem IW {L f n:Nat} (h:f < L):iF L f n < L:=by
 unfold iF
 split
 ·omega
 ·have:=Nat.mod_lt (n - f) (show L - f > 0 by omega)
  omega
def nextR (L f b:Nat) (p:Int×Int) (d:Nat):Int×Int:=((iF L f (p.1.toNat * b):Nat),(iF L f (p.2.toNat + p.1.toNat * d):Nat))
def Jw (l:List Int) (p:Int×Int):Int:=gl l p.2.toNat
noncomputable def mR (b:Nat) (l:List Int) (f:Nat):Mac:=built b (((iF l.length f 1:Nat):Int),(0:Int)) (Jw l) (nextR l.length f b)
theorem zl {L f b:Nat} (h:f < L):yQ (nextR L f b) b (sq L L):=⟨fun p hp d hd=>by
 refine iX.2 ?_
 have h1:=IW (n:=p.1.toNat * b) h
 have h2:=IW (n:=p.2.toNat + p.1.toNat * d) h
 unfold nextR
 dsimp only
 omega⟩
theorem zm {L f:Nat} (h:f < L):(((iF L f 1:Nat):Int),(0:Int)) ∈ sq L L:=iX.2 (by have:=IW (n:=1) h; dsimp only; omega)
theorem Sz {b:Nat} (hb:1≤b) {l:List Int} {f:Nat} (h:f < l.length):(mR b l f).Ok∧(mR b l f).out.length≤l.length * l.length:=by
 have:=IJ (zl (b:=b) h) (zm h) (Jw l) hb
 rw [wP] at this
 exact this
def rv (a:Option Addr) (n:Nat) (f:Nat):Value:=.agg ⟨[.slice a n n,int f]⟩
def Mi (base:Int) (a b:List Int):Prop:=base < 2∨5 < base∨20 < a.length∨b.length < 1∨20 < b.length∨(¬ ∀ x ∈ a,0≤x∧x≤9)∨(¬ ∀ x ∈ b,0≤x∧x≤9)
theorem IX (a:Option Addr) (l c:Nat) (n:Int):fF 4 (.agg ⟨[.slice a l c,int n]⟩) (.agg ⟨[.slice a l c,int n]⟩) = true:=by
 simp [fF,OQ]
theorem QW (g a b:Nat):fF 4 (.func (.func g) ⟨[]⟩ ⟨[ptr a b]⟩) (.func (.func g) ⟨[]⟩ ⟨[ptr a b]⟩) = true:=by
 simp [fF,ptr]
theorem QX (g a b c d:Nat):fF 4 (.func (.func g) ⟨[]⟩ ⟨[ptr a b,ptr c d]⟩) (.func (.func g) ⟨[]⟩ ⟨[ptr a b,ptr c d]⟩) = true:=by
 simp [fF,ptr]
attribute [local irreducible] E iV cellAt bM storeAt callable dz dI dP findKey eD bT Hp.at Hp.set Hp.lay dO dw setAt aJ dA bO dG Rnd gD fK iN Int.tmod Int.tdiv Int.fdiv
section
variable [bE]
attribute [local irreducible] sameAt lH
theorem QY (h:Hp):aJ E 22 [] h (fun r h'=>jD h h' r ⟨2,[0,1],[[0,1],[1,0]]⟩∧aC h h'):=by
 refine enter22 (by simp) ?_
 conv=>whnf
 refine ak.cut (α:=Hp) (fun _=>[(0,ptr h.next 0)]) (fun x H=>x = H∧aC h H∧H.at h.next = some (.row 25 true [int 0,bg,bg])∧H.next = h.next + 1) ?_ ?_
 ·conv=>whnf
  exact ⟨_,⟨rfl,trivial⟩,⟨rfl,aC.lay _ _,Hp.aA _ _,Hp.bG _ _⟩,rfl⟩
 rintro H φ1 _ ⟨rfl,gH,aR,nH⟩
 have n1:(H.lay (.row 3 true [int 0,int 1])).next = H.next + 1:=Hp.bG _ _
 have n2:((H.lay (.row 3 true [int 0,int 1])).lay (.row 3 true [int 0,int 1])).next = H.next + 2:=by rw [Hp.bG,n1]
 have n3:(((H.lay (.row 3 true [int 0,int 1])).lay (.row 3 true [int 0,int 1])).lay (.row 3 true [int 1,int 0])).next = H.next + 3:=by rw [Hp.bG,n2]
 have g4:aC H ((((H.lay (.row 3 true [int 0,int 1])).lay (.row 3 true [int 0,int 1])).lay (.row 3 true [int 1,int 0])).lay (.row 22 true [slc (H.lay (.row 3 true [int 0,int 1])).next 0 2 2,slc ((H.lay (.row 3 true [int 0,int 1])).lay (.row 3 true [int 0,int 1])).next 0 2 2])):=(((aC.lay _ _).bL _).bL _).bL _
 have b1:((((H.lay (.row 3 true [int 0,int 1])).lay (.row 3 true [int 0,int 1])).lay (.row 3 true [int 1,int 0])).lay (.row 22 true [slc (H.lay (.row 3 true [int 0,int 1])).next 0 2 2,slc ((H.lay (.row 3 true [int 0,int 1])).lay (.row 3 true [int 0,int 1])).next 0 2 2])).at H.next = some (.row 3 true [int 0,int 1]):=Hp.bC _ (Hp.bC _ (Hp.bC _ (Hp.aA _ _)))
 have b2:((((H.lay (.row 3 true [int 0,int 1])).lay (.row 3 true [int 0,int 1])).lay (.row 3 true [int 1,int 0])).lay (.row 22 true [slc (H.lay (.row 3 true [int 0,int 1])).next 0 2 2,slc ((H.lay (.row 3 true [int 0,int 1])).lay (.row 3 true [int 0,int 1])).next 0 2 2])).at (H.lay (.row 3 true [int 0,int 1])).next = some (.row 3 true [int 0,int 1]):=Hp.bC _ (Hp.bC _ (Hp.aA _ _))
 have b3:((((H.lay (.row 3 true [int 0,int 1])).lay (.row 3 true [int 0,int 1])).lay (.row 3 true [int 1,int 0])).lay (.row 22 true [slc (H.lay (.row 3 true [int 0,int 1])).next 0 2 2,slc ((H.lay (.row 3 true [int 0,int 1])).lay (.row 3 true [int 0,int 1])).next 0 2 2])).at ((H.lay (.row 3 true [int 0,int 1])).lay (.row 3 true [int 0,int 1])).next = some (.row 3 true [int 1,int 0]):=Hp.bC _ (Hp.aA _ _)
 have b4:((((H.lay (.row 3 true [int 0,int 1])).lay (.row 3 true [int 0,int 1])).lay (.row 3 true [int 1,int 0])).lay (.row 22 true [slc (H.lay (.row 3 true [int 0,int 1])).next 0 2 2,slc ((H.lay (.row 3 true [int 0,int 1])).lay (.row 3 true [int 0,int 1])).next 0 2 2])).at (((H.lay (.row 3 true [int 0,int 1])).lay (.row 3 true [int 0,int 1])).lay (.row 3 true [int 1,int 0])).next = some (.row 22 true [slc (H.lay (.row 3 true [int 0,int 1])).next 0 2 2,slc ((H.lay (.row 3 true [int 0,int 1])).lay (.row 3 true [int 0,int 1])).next 0 2 2]):=Hp.aA _ _
 have aR4:=g4.at_ _ _ aR
 conv=>whnf
 refine ak.go ?_
 conv=>whnf
 refine ⟨rfl,_,bJ (vs:=[int 2,slc H.next 0 2 2,slc (((H.lay (.row 3 true [int 0,int 1])).lay (.row 3 true [int 0,int 1])).lay (.row 3 true [int 1,int 0])).next 0 2 2]) aR4 rfl rfl rfl,?_⟩
 conv=>whnf
 obtain ⟨i25,t25,lI,lJ⟩:=Io
 refine fq (r:=h.next) (o:=0) (cs:=[int 2,slc H.next 0 2 2,slc (((H.lay (.row 3 true [int 0,int 1])).lay (.row 3 true [int 0,int 1])).lay (.row 3 true [int 1,int 0])).next 0 2 2]) rfl t25 lI ?_ ?_
 ·rw [lJ]
  exact aM (Hp.bH _ (Hp.aU aR4)) rfl
 ·refine ⟨⟨_,_,[slc (H.lay (.row 3 true [int 0,int 1])).next 0 2 2,slc ((H.lay (.row 3 true [int 0,int 1])).lay (.row 3 true [int 0,int 1])).next 0 2 2],rfl,⟨rfl,.inr ⟨H.next,rfl,by omega,true,by rw [Hp.bU _ (by omega)]; exact b1⟩⟩,⟨rfl,.inr ⟨_,rfl,by omega,true,by rw [Hp.bU _ (by omega)]; exact b4⟩⟩,rfl,fun k u l h1 h2=>?_⟩,(gH.trans g4).dD _ (by omega)⟩
  match k,h1,h2 with
  | 0,h1,h2=>cases h1; cases h2; exact .inr ⟨_,rfl,by omega,true,by rw [Hp.bU _ (by omega)]; exact b2⟩
  | 1,h1,h2=>cases h1; cases h2; exact .inr ⟨_,rfl,by omega,true,by rw [Hp.bU _ (by omega)]; exact b3⟩
  | k + 2,h1,h2=>simp at h1
theorem EP (h:Hp):aJ E 60 [] h (fun r h'=>jD h h' r ⟨2,[0,1],[[0,1],[1,0]]⟩∧aC h h'):=by
 refine enter60 (by simp) ?_
 conv=>whnf
 refine ak.cut (α:=Hp) (fun _=>[(0,ptr h.next 0)]) (fun x H=>x = H∧aC h H∧H.at h.next = some (.row 26 true [int 0,bg,bg])∧H.next = h.next + 1) ?_ ?_
 ·conv=>whnf
  exact ⟨_,⟨rfl,trivial⟩,⟨rfl,aC.lay _ _,Hp.aA _ _,Hp.bG _ _⟩,rfl⟩
 rintro H φ1 _ ⟨rfl,gH,aR,nH⟩
 have n1:(H.lay (.row 3 true [int 0,int 1])).next = H.next + 1:=Hp.bG _ _
 have n2:((H.lay (.row 3 true [int 0,int 1])).lay (.row 3 true [int 0,int 1])).next = H.next + 2:=by rw [Hp.bG,n1]
 have n3:(((H.lay (.row 3 true [int 0,int 1])).lay (.row 3 true [int 0,int 1])).lay (.row 3 true [int 1,int 0])).next = H.next + 3:=by rw [Hp.bG,n2]
 have g4:aC H ((((H.lay (.row 3 true [int 0,int 1])).lay (.row 3 true [int 0,int 1])).lay (.row 3 true [int 1,int 0])).lay (.row 22 true [slc (H.lay (.row 3 true [int 0,int 1])).next 0 2 2,slc ((H.lay (.row 3 true [int 0,int 1])).lay (.row 3 true [int 0,int 1])).next 0 2 2])):=(((aC.lay _ _).bL _).bL _).bL _
 have b1:((((H.lay (.row 3 true [int 0,int 1])).lay (.row 3 true [int 0,int 1])).lay (.row 3 true [int 1,int 0])).lay (.row 22 true [slc (H.lay (.row 3 true [int 0,int 1])).next 0 2 2,slc ((H.lay (.row 3 true [int 0,int 1])).lay (.row 3 true [int 0,int 1])).next 0 2 2])).at H.next = some (.row 3 true [int 0,int 1]):=Hp.bC _ (Hp.bC _ (Hp.bC _ (Hp.aA _ _)))
 have b2:((((H.lay (.row 3 true [int 0,int 1])).lay (.row 3 true [int 0,int 1])).lay (.row 3 true [int 1,int 0])).lay (.row 22 true [slc (H.lay (.row 3 true [int 0,int 1])).next 0 2 2,slc ((H.lay (.row 3 true [int 0,int 1])).lay (.row 3 true [int 0,int 1])).next 0 2 2])).at (H.lay (.row 3 true [int 0,int 1])).next = some (.row 3 true [int 0,int 1]):=Hp.bC _ (Hp.bC _ (Hp.aA _ _))
 have b3:((((H.lay (.row 3 true [int 0,int 1])).lay (.row 3 true [int 0,int 1])).lay (.row 3 true [int 1,int 0])).lay (.row 22 true [slc (H.lay (.row 3 true [int 0,int 1])).next 0 2 2,slc ((H.lay (.row 3 true [int 0,int 1])).lay (.row 3 true [int 0,int 1])).next 0 2 2])).at ((H.lay (.row 3 true [int 0,int 1])).lay (.row 3 true [int 0,int 1])).next = some (.row 3 true [int 1,int 0]):=Hp.bC _ (Hp.aA _ _)
 have b4:((((H.lay (.row 3 true [int 0,int 1])).lay (.row 3 true [int 0,int 1])).lay (.row 3 true [int 1,int 0])).lay (.row 22 true [slc (H.lay (.row 3 true [int 0,int 1])).next 0 2 2,slc ((H.lay (.row 3 true [int 0,int 1])).lay (.row 3 true [int 0,int 1])).next 0 2 2])).at (((H.lay (.row 3 true [int 0,int 1])).lay (.row 3 true [int 0,int 1])).lay (.row 3 true [int 1,int 0])).next = some (.row 22 true [slc (H.lay (.row 3 true [int 0,int 1])).next 0 2 2,slc ((H.lay (.row 3 true [int 0,int 1])).lay (.row 3 true [int 0,int 1])).next 0 2 2]):=Hp.aA _ _
 have aR4:=g4.at_ _ _ aR
 conv=>whnf
 refine ak.go ?_
 conv=>whnf
 refine ⟨rfl,_,bJ (vs:=[int 2,slc H.next 0 2 2,slc (((H.lay (.row 3 true [int 0,int 1])).lay (.row 3 true [int 0,int 1])).lay (.row 3 true [int 1,int 0])).next 0 2 2]) aR4 rfl rfl rfl,?_⟩
 conv=>whnf
 obtain ⟨i25,t25,lI,lJ⟩:=Qz
 refine fq (r:=h.next) (o:=0) (cs:=[int 2,slc H.next 0 2 2,slc (((H.lay (.row 3 true [int 0,int 1])).lay (.row 3 true [int 0,int 1])).lay (.row 3 true [int 1,int 0])).next 0 2 2]) rfl t25 lI ?_ ?_
 ·rw [lJ]
  exact aM (Hp.bH _ (Hp.aU aR4)) rfl
 ·refine ⟨⟨_,_,[slc (H.lay (.row 3 true [int 0,int 1])).next 0 2 2,slc ((H.lay (.row 3 true [int 0,int 1])).lay (.row 3 true [int 0,int 1])).next 0 2 2],rfl,⟨rfl,.inr ⟨H.next,rfl,by omega,true,by rw [Hp.bU _ (by omega)]; exact b1⟩⟩,⟨rfl,.inr ⟨_,rfl,by omega,true,by rw [Hp.bU _ (by omega)]; exact b4⟩⟩,rfl,fun k u l h1 h2=>?_⟩,(gH.trans g4).dD _ (by omega)⟩
  match k,h1,h2 with
  | 0,h1,h2=>cases h1; cases h2; exact .inr ⟨_,rfl,by omega,true,by rw [Hp.bU _ (by omega)]; exact b2⟩
  | 1,h1,h2=>cases h1; cases h2; exact .inr ⟨_,rfl,by omega,true,by rw [Hp.bU _ (by omega)]; exact b3⟩
  | k + 2,h1,h2=>simp at h1
end
section
variable [bE]
attribute [local irreducible] sameAt
theorem OT (r:Nat) (x:Bool) (va vb:Value) (a b:List Int) (h:Hp) (hr:h.at r = some (.row 22 x [va,vb])) (ha:View h va a) (hb:View h vb b) (hla:a.length≤100) (hlb:b.length≤100):aJ E 84 [slc r 0 2 2] h (fun w h'=>Built h h' 3 w (a ++ b)∧aC h h'):=by
 obtain ⟨aa,ca,rfl⟩:=ha.known
 obtain ⟨ab,cb,rfl⟩:=hb.known
 refine enter84 (by simp) ?_
 conv=>whnf
 refine ak.go ?_
 conv=>whnf
 refine ak.go ?_
 conv=>whnf
 refine ak.cut (α:=Value×Hp) (fun s=>[(3,s.1)]) (fun s H=>s.2 = H∧aC h s.2∧Built h s.2 3 s.1 (a ++ b)) ?_ ?_
 rotate_left
 ·rintro ⟨w,H⟩ φ1 _ ⟨rfl,g1,hw⟩
  dsimp only at g1 hw ⊢
  have hws:=hw.c.slice
  obtain ⟨aw,rfl,-⟩:=hws
  conv=>whnf
  repeat (refine ak.go ?_; conv=>whnf)
  exact ⟨hw,g1⟩
 conv=>whnf
 refine ak.go ?_
 conv=>whnf
 refine bQ (α:=Nat×Value×Hp) (fun s=>[(8,int s.1),(7,int 2),(6,slc r 0 2 2),(3,s.2.1)]) (fun s=>s.2.2) (fun s=>aC h s.2.2∧(s.1 = 0∧Built h s.2.2 3 s.2.1 []∨s.1 = 1∧Built h s.2.2 3 s.2.1 a∨s.1 = 2∧Built h s.2.2 3 s.2.1 (a ++ b))) (fun s=>2 - s.1) (0,bg,h) ⟨.refl _,.inl ⟨rfl,.inl ⟨rfl,rfl⟩⟩⟩ ⟨rfl,rfl,rfl,rfl,trivial⟩ (Hp.Le.refl _) ?_
 rintro ⟨k,w,H⟩ φ1 ⟨g1,hcase⟩
 dsimp only at g1 hcase ⊢
 have hrH:=g1.at_ _ _ hr
 rcases hcase with ⟨rfl,hw⟩ | ⟨rfl,hw⟩ | ⟨rfl,hw⟩
 ·have c0:cellAt H r (iy 0 0 1) = some (.slice aa a.length ca):=yS hrH rfl
  conv=>whnf
  repeat (refine ak.go ?_; conv=>whnf)
  refine yG (by omega) ?_
  conv=>whnf
  repeat (refine ak.go ?_; conv=>whnf)
  refine ⟨rfl,⟨by omega,by omega⟩,?_⟩
  conv=>whnf
  refine ⟨_,c0,?_⟩
  conv=>whnf
  repeat (refine ak.go ?_; conv=>whnf)
  refine fK.ints hw g1 (ha.ext g1).elems (by simp; omega) ?_
  intro v' H' hb' hg' _
  conv=>whnf
  refine ⟨_,wid (by omega),?_⟩
  conv=>whnf
  exact Rnd.mk (1,v',H') ⟨hg',.inr (.inl ⟨rfl,by rw [List.nil_append] at hb'; exact hb'⟩)⟩ (by show 2 - 1 < 2 - 0; omega) ⟨rfl,rfl,rfl,rfl,trivial⟩ (Hp.Le.refl _) rfl
 ·have c0:cellAt H r (iy 0 1 1) = some (.slice ab b.length cb):=yS hrH rfl
  conv=>whnf
  repeat (refine ak.go ?_; conv=>whnf)
  refine yG (by omega) ?_
  conv=>whnf
  repeat (refine ak.go ?_; conv=>whnf)
  refine ⟨rfl,⟨by omega,by omega⟩,?_⟩
  conv=>whnf
  refine ⟨_,c0,?_⟩
  conv=>whnf
  repeat (refine ak.go ?_; conv=>whnf)
  refine fK.ints hw g1 (hb.ext g1).elems (by omega) ?_
  intro v' H' hb' hg' _
  conv=>whnf
  refine ⟨_,wid (by omega),?_⟩
  conv=>whnf
  exact Rnd.mk (2,v',H') ⟨hg',.inr (.inr ⟨rfl,hb'⟩)⟩ (by show 2 - 2 < 2 - 1; omega) ⟨rfl,rfl,rfl,rfl,trivial⟩ (Hp.Le.refl _) rfl
 ·conv=>whnf
  repeat (refine ak.go ?_; conv=>whnf)
  refine yH (by omega) ?_
  conv=>whnf
  exact ⟨(w,H),⟨rfl,trivial⟩,⟨rfl,g1,hw⟩,rfl⟩
theorem zn (al:Option Addr) (L f n:Nat) (h:Hp) (hf:f < L) (hL:L≤100) (hn:n≤100000):aJ E 102 [rv al L f,int n] h (fun r h'=>r = int (iF L f n:Nat)∧aC h h'):=by
 have aX:(h.lay (.row 121 true [.slice al L L,int f])).at h.next = some (.row 121 true [.slice al L L,int f]):=Hp.aA _ _
 have c0:cellAt (h.lay (.row 121 true [.slice al L L,int f])) h.next 0 = some (.slice al L L):=aQ aX rfl
 have c1:cellAt (h.lay (.row 121 true [.slice al L L,int f])) h.next 1 = some (int f):=aQ aX rfl
 unfold rv
 refine enter102 (by simp) ?_
 conv=>whnf
 refine ak.go ?_
 conv=>whnf
 refine ak.go ?_
 conv=>whnf
 refine ak.go ?_
 conv=>whnf
 refine ⟨_,c1,?_⟩
 conv=>whnf
 by_cases hnf:n < f
 ·refine yG (by omega) ?_
  conv=>whnf
  repeat (refine ak.go ?_; conv=>whnf)
  refine ⟨?_,aC.lay _ _⟩
  show int n = _
  unfold iF
  rw [if_pos hnf]
 ·have em:=nu (n - f) (L - f)
  have hml:=Nat.mod_lt (n - f) (show L - f > 0 by omega)
  have Eh:∃ r,(n - f) % (L - f) = r:=⟨_,rfl⟩
  obtain ⟨r,er⟩:=Eh
  rw [er] at em hml
  refine yH (by omega) ?_
  conv=>whnf
  repeat (refine ak.go ?_; conv=>whnf)
  refine ⟨_,c1,?_⟩
  conv=>whnf
  refine ⟨_,c1,?_⟩
  conv=>whnf
  refine ⟨((n - f:Nat):Int),wie (by omega) (by omega),?_⟩
  conv=>whnf
  refine ⟨_,c0,?_⟩
  conv=>whnf
  refine ⟨_,c1,?_⟩
  conv=>whnf
  refine ⟨((L - f:Nat):Int),wie (by omega) (by omega),?_⟩
  conv=>whnf
  refine ⟨by omega,?_⟩
  conv=>whnf
  rw [em]
  refine ⟨((f + r:Nat):Int),wie (by omega) (by omega),?_⟩
  conv=>whnf
  repeat (refine ak.go ?_; conv=>whnf)
  refine ⟨?_,aC.lay _ _⟩
  show int (f + r:Nat) = _
  unfold iF
  rw [if_neg hnf,er]
end
end Go.Proofs.Ytedneplaibmppaa
namespace Go.Proofs.Ytedneplaibmppaa
open Go.Rx Go.RowKit
theorem OU {L:Nat} {p:Int×Int} (h:p ∈ sq L L):∃ s k:Nat,p = ((s:Int),(k:Int))∧s < L∧k < L:=by
 obtain ⟨a,b⟩:=p
 have:=iX.1 h
 dsimp only at this
 exact ⟨a.toNat,b.toNat,by rw [Prod.mk.injEq]; omega,by omega,by omega⟩
attribute [local irreducible] E iV cellAt bM storeAt callable dz dI dP findKey eD bT Hp.at Hp.set Hp.lay dO dw setAt aJ dA bO dG Rnd gD fK iN Int.tmod Int.tdiv Int.fdiv
section
variable [bE]
attribute [local irreducible] sameAt lH
theorem QZ (p:Int×Int) (Rg:Nat) (al:Option Addr) (l:List Int) (f:Nat) (H:Hp) (hp:p ∈ sq l.length l.length) (aR:H.at Rg = some (.row 121 true [.slice al l.length l.length,int f])) (hl:View H (.slice al l.length l.length) l):aJ E 100 [dH p,ptr Rg 0] H (fun r H'=>r = int (Jw l p)∧aC H H'):=by
 obtain ⟨s,k,rfl,hs,hk⟩:=OU hp
 have aP:(H.lay (.row 147 true [int s,int k])).at H.next = some (.row 147 true [int s,int k]):=Hp.aA _ _
 have g1:aC H (H.lay (.row 147 true [int s,int k])):=aC.lay _ _
 have aR1:=g1.at_ _ _ aR
 have hc:=View.iO (hl.ext g1) hk
 obtain ⟨r,o,sp,rfl,hsp,-,hc⟩:=hc
 unfold dH
 refine enter100 (by simp) ?_
 conv=>whnf
 refine ak.go ?_
 conv=>whnf
 refine ak.go ?_
 conv=>whnf
 refine ⟨_,aQ aR1 rfl,?_⟩
 conv=>whnf
 refine ⟨_,aQ aP rfl,?_⟩
 conv=>whnf
 refine ⟨hsp,⟨by omega,by omega⟩,?_⟩
 conv=>whnf
 refine ⟨_,hc,?_⟩
 conv=>whnf
 exact Ia rfl rfl ⟨by unfold Jw; rw [Int.toNat_natCast]; rfl,g1⟩
theorem Q0 (p:Int×Int) (d:Nat) (Rg B:Nat) (al:Option Addr) (L f b:Nat) (H:Hp) (hp:p ∈ sq L L) (hf:f < L) (hL:L≤100) (hb:b≤10) (hd:d < b) (aR:H.at Rg = some (.row 121 true [.slice al L L,int f])) (aB:cellAt H B 0 = some (int b)):aJ E 101 [dH p,int d,ptr Rg 0,ptr B 0] H (fun r H'=>r = dH (nextR L f b p d)∧aC H H'):=by
 obtain ⟨s,k,rfl,hs,hk⟩:=OU hp
 have n1:(H.lay (.row 147 true [int s,int k])).next = H.next + 1:=Hp.bG _ _
 have enx:nextR L f b ((s:Int),(k:Int)) d = (((iF L f (s * b):Nat):Int),((iF L f (k + s * d):Nat):Int)):=by
  unfold nextR
  rw [Int.toNat_natCast,Int.toNat_natCast]
 rw [enx]
 have m1:s * b≤100 * 10:=Nat.mul_le_mul (by omega) hb
 have m2:s * d≤100 * 10:=Nat.mul_le_mul (by omega) (by omega)
 have e1:(s:Int) * (b:Int) = ((s * b:Nat):Int):=by rw [Int.natCast_mul]
 have e2:(s:Int) * (d:Int) = ((s * d:Nat):Int):=by rw [Int.natCast_mul]
 have IQ:∃ u,s * b = u:=⟨_,rfl⟩
 obtain ⟨u,eu⟩:=IQ
 have aaN:∃ v,s * d = v:=⟨_,rfl⟩
 obtain ⟨v,ev⟩:=aaN
 rw [eu] at m1 e1 ⊢
 rw [ev] at m2 e2 ⊢
 unfold dH
 refine enter101 (by simp) ?_
 conv=>whnf
 refine ak.cut (α:=Hp) (fun _=>[(4,ptr H.next 0),(6,ptr (H.next + 1) 0),(1,int d),(2,ptr Rg 0),(3,ptr B 0)]) (fun x H2=>x = H2∧aC H x∧x.at H.next = some (.row 147 true [int s,int k])∧x.at (H.next + 1) = some (.row 147 true [int 0,int 0])) ?_ ?_
 ·conv=>whnf
  exact ⟨_,⟨rfl,congrArg (fun k=>ptr k 0) n1,rfl,rfl,rfl,trivial⟩,⟨rfl,(aC.lay _ _).bL _,Hp.bC _ (Hp.aA _ _),fM n1 (Hp.aA _ _)⟩,rfl⟩
 rintro H2 φ1 _ ⟨rfl,g2,aP,aO⟩
 have cR:=aM (g2.at_ _ _ aR) (show [Value.slice al L L,int f].length = 2 from rfl)
 have cB:=g2.cell aB
 have p0:cellAt H2 H.next 0 = some (int s):=aQ aP rfl
 have p1:cellAt H2 H.next 1 = some (int k):=aQ aP rfl
 have hsr:=IX al L L f
 conv=>whnf
 refine ak.go ?_
 conv=>whnf
 refine ⟨_,cR,?_⟩
 conv=>whnf
 refine ⟨_,p0,?_⟩
 conv=>whnf
 refine ⟨_,cB,?_⟩
 conv=>whnf
 refine ⟨(u:Int),wie e1 (by omega),?_⟩
 conv=>whnf
 refine aJ.mono (zn al L f u _ hf hL (by omega)) ?_
 rintro _ H3 ⟨rfl,g3⟩
 have cR3:=g3.cells cR
 have p03:=g3.cell p0
 have p13:=g3.cell p1
 conv=>whnf
 refine ⟨_,cR3,?_⟩
 conv=>whnf
 refine ⟨_,p13,?_⟩
 conv=>whnf
 refine ⟨_,p03,?_⟩
 conv=>whnf
 refine ⟨(v:Int),wie e2 (by omega),?_⟩
 conv=>whnf
 refine ⟨((k + v:Nat):Int),wie (by omega) (by omega),?_⟩
 conv=>whnf
 refine aJ.mono (zn al L f (k + v) _ hf hL (by omega)) ?_
 rintro _ H4 ⟨rfl,g4⟩
 have cR4:=g4.cells cR3
 have p04:=g4.cell p03
 have p14:=g4.cell p13
 have aO4:=g4.at_ _ _ (g3.at_ _ _ aO)
 conv=>whnf
 refine ⟨rfl,_,bJ (vs:=[int (iF L f u:Nat),int (iF L f (k + v):Nat)]) aO4 rfl rfl rfl,?_⟩
 have cR5:bM (H4.set (H.next + 1) (.row 147 true [int (iF L f u:Nat),int (iF L f (k + v):Nat)])) Rg 0 2 = some [.slice al L L,int f]:=by
  refine aM (e:=121) (x:=true) ?_ rfl
  have:=Hp.aU aR
  rw [Hp.bU _ (by omega)]
  exact g4.at_ _ _ (g3.at_ _ _ (g2.at_ _ _ aR))
 have p05:cellAt (H4.set (H.next + 1) (.row 147 true [int (iF L f u:Nat),int (iF L f (k + v):Nat)])) H.next 0 = some (int s):=aQ (by rw [Hp.bU _ (by omega)]; exact g4.at_ _ _ (g3.at_ _ _ aP)) rfl
 have p15:cellAt (H4.set (H.next + 1) (.row 147 true [int (iF L f u:Nat),int (iF L f (k + v):Nat)])) H.next 1 = some (int k):=aQ (by rw [Hp.bU _ (by omega)]; exact g4.at_ _ _ (g3.at_ _ _ aP)) rfl
 conv=>whnf
 refine ⟨?_,?_⟩
 ·repeat' (first | exact True.intro | (refine And.intro ?_ ?_ <;> (conv=>whnf)))
  all_goals first
   | exact aj (h2:=_) rfl (aI _)
   | exact aj (h2:=_) rfl (dh _ _)
   | exact aj (h2:=_) (congrArg (fun x=>hval _ (gV x)) cR) hsr
   | exact aj (h2:=_) (congrArg (fun x=>hval _ (gV x)) cR3) hsr
   | exact aj (h2:=_) (congrArg (fun x=>hval _ (gV x)) cR4) hsr
   | exact aj (h2:=_) (congrArg (fun x=>hval _ (gV x)) cR5) hsr
   | exact aj (h2:=_) (congrArg (hval _) p0) (aI _)
   | exact aj (h2:=_) (congrArg (hval _) p1) (aI _)
   | exact aj (h2:=_) (congrArg (hval _) p03) (aI _)
   | exact aj (h2:=_) (congrArg (hval _) p13) (aI _)
   | exact aj (h2:=_) (congrArg (hval _) p04) (aI _)
   | exact aj (h2:=_) (congrArg (hval _) p14) (aI _)
   | exact aj (h2:=_) (congrArg (hval _) p05) (aI _)
   | exact aj (h2:=_) (congrArg (hval _) p15) (aI _)
   | exact aj (h2:=_) (show hval _ (arK .i64 .add _ _) = _ from sN (by omega) (by omega)) (aI _)
   | exact aj (h2:=_) (show hval _ (arK .i64 .mul _ _) = _ from Zh e2 (by omega)) (aI _)
   | trace_state
 have hs:(kW Try.prog 147).isSome = true:=by kernel_rfl
 conv=>whnf
 refine fq (i:=(kW Try.prog 147).get hs) (r:=H.next + 1) (o:=0) (cs:=[int (iF L f u:Nat),int (iF L f (k + v):Nat)]) rfl (nZ (by kernel_rfl) (Option.some_get hs).symm) (by kernel_rfl) ?_ ?_
 ·rw [show ((kW Try.prog 147).get hs).size = 2 from by kernel_rfl]
  exact aM (Hp.bH _ (Hp.aU aO4)) rfl
 ·exact ⟨rfl,((g2.trans g3).trans g4).dD _ (by omega)⟩
theorem Q5 (al:Option Addr) (l:List Int) (f b:Nat) (h:Hp) (hf:f < l.length) (hL:l.length≤100) (hb:1≤b∧b≤10) (hl:View h (.slice al l.length l.length) l):aJ E 85 [rv al l.length f,int b] h (fun r h'=>jD h h' r (mR b l f).i∧aC h h'):=by
 unfold rv
 refine enter85 (by simp) ?_
 conv=>whnf
 refine ak.cut (α:=Hp) (fun _=>[(2,ptr h.next 0),(3,ptr (h.next + 1) 0),(4,ptr (h.next + 2) 0)]) (fun x H=>x = H∧aC h x∧x.at h.next = some (.row 121 true [.slice al l.length l.length,int f])∧x.at (h.next + 1) = some (.row 3 true [int b])∧x.at (h.next + 2) = some (.row 25 true [int 0,bg,bg])) ?_ ?_
 ·conv=>whnf
  have n1:(h.lay (.row 121 true [.slice al l.length l.length,int f])).next = h.next + 1:=Hp.bG _ _
  have n2:((h.lay (.row 121 true [.slice al l.length l.length,int f])).lay (.row 3 true [int b])).next = h.next + 2:=by rw [Hp.bG,n1]
  exact ⟨_,⟨rfl,congrArg (fun k=>ptr k 0) n1,congrArg (fun k=>ptr k 0) n2,trivial⟩,⟨rfl,((aC.lay _ _).bL _).bL _,Hp.bC _ (Hp.bC _ (Hp.aA _ _)),Hp.bC _ (fM n1 (Hp.aA _ _)),fM n2 (Hp.aA _ _)⟩,rfl⟩
 rintro H φ1 _ ⟨rfl,gH,aG,aB,aO⟩
 have cB:cellAt H (h.next + 1) 0 = some (int b):=aQ aB rfl
 have cG:=aM aG (show [Value.slice al l.length l.length,int f].length = 2 from rfl)
 have hsr:=IX al l.length l.length f
 have hl2:l.length * l.length≤100 * 100:=Nat.mul_le_mul hL hL
 conv=>whnf
 refine ak.go ?_
 conv=>whnf
 refine ak.go ?_
 conv=>whnf
 refine ak.go ?_
 conv=>whnf
 refine ⟨_,cB,?_⟩
 conv=>whnf
 refine ⟨_,cG,?_⟩
 conv=>whnf
 refine aJ.mono (zn al l.length f 1 _ hf hL (by omega)) ?_
 rintro _ H2 ⟨rfl,g2⟩
 have cB2:=g2.cell cB
 have cG2:=g2.cells cG
 have aG2:=g2.at_ _ _ aG
 have aO2:=g2.at_ _ _ aO
 have gh2:=gH.trans g2
 have ho:UH 100 [ptr h.next 0] dH (Jw l) (sq l.length l.length) H2:=⟨can100,fun p hp H5 g5=>QZ p h.next al l f H5 hp (g5.at_ _ _ aG2) (hl.ext (gh2.trans g5))⟩
 have hn:Kg 101 [ptr h.next 0,ptr (h.next + 1) 0] dH (nextR l.length f b) b (sq l.length l.length) H2:=⟨can101,fun p hp d hd H5 g5=>Q0 p d h.next (h.next + 1) al l.length f b H5 hp hf hL hb.2 hd (g5.at_ _ _ aG2) (g5.cell cB2)⟩
 have hbt:=Ju b (((iF l.length f 1:Nat):Int),(0:Int)) (Jw l) (nextR l.length f b) (sq l.length l.length) 100 101 _ _ H2 ⟨hb.1,by omega⟩ (zl hf) (zm hf) (by rw [wP]; omega) ho hn
 conv=>whnf
 refine aJ.mono hbt ?_
 rintro w5 H5 ⟨hown,g5⟩
 have XF:∃ m',built b (((iF l.length f 1:Nat):Int),(0:Int)) (Jw l) (nextR l.length f b) = m':=⟨_,rfl⟩
 obtain ⟨m',em⟩:=XF
 rw [em] at hown
 have em':mR b l f = m':=em
 rw [em']
 have hk5:=hown.known
 obtain ⟨a5,b5,rfl⟩:=hk5
 have aO5:=g5.at_ _ _ aO2
 have cB5:=g5.cell cB2
 have cG5:=g5.cells cG2
 conv=>whnf
 refine ⟨rfl,_,bJ (vs:=[int m'.i.base,.slice a5 m'.i.out.length m'.i.out.length,.slice b5 m'.i.next.length m'.i.next.length]) aO5 rfl rfl rfl,?_⟩
 have cB6:∀ o,cellAt (H5.set (h.next + 2) o) (h.next + 1) 0 = some (int b):=fun o=>aQ (by rw [Hp.bU _ (by omega)]; exact g5.at_ _ _ (g2.at_ _ _ aB)) rfl
 have cG6:∀ o,bM (H5.set (h.next + 2) o) h.next 0 2 = some [.slice al l.length l.length,int f]:=fun o=>aM (e:=121) (x:=true) (by rw [Hp.bU _ (by omega)]; exact g5.at_ _ _ aG2) rfl
 conv=>whnf
 refine ⟨?_,?_⟩
 ·repeat' (first | exact True.intro | (refine And.intro ?_ ?_ <;> (conv=>whnf)))
  all_goals first
   | exact aj (h2:=_) rfl (aI _)
   | exact aj (h2:=_) rfl (dh _ _)
   | exact aj (h2:=_) rfl (QW _ _ _)
   | exact aj (h2:=_) rfl (QX _ _ _ _ _)
   | exact aj (h2:=_) rfl (iP _ _)
   | exact aj (h2:=_) (congrArg (fun x=>hval _ (gV x)) cG) hsr
   | exact aj (h2:=_) (congrArg (fun x=>hval _ (gV x)) cG2) hsr
   | exact aj (h2:=_) (congrArg (fun x=>hval _ (gV x)) cG5) hsr
   | exact aj (h2:=_) (congrArg (fun x=>hval _ (gV x)) (cG6 _)) hsr
   | exact aj (h2:=_) (congrArg (hval _) cB) (aI _)
   | exact aj (h2:=_) (congrArg (hval _) cB2) (aI _)
   | exact aj (h2:=_) (congrArg (hval _) cB5) (aI _)
   | exact aj (h2:=_) (congrArg (hval _) (cB6 _)) (aI _)
   | trace_state
 conv=>whnf
 obtain ⟨i25,t25,lI,lJ⟩:=Io
 refine fq (r:=h.next + 2) (o:=0) (cs:=[int m'.i.base,.slice a5 m'.i.out.length m'.i.out.length,.slice b5 m'.i.next.length m'.i.next.length]) rfl t25 lI ?_ ?_
 ·rw [lJ]
  exact aM (Hp.bH _ (Hp.aU aO5)) rfl
 ·exact ⟨(hown.put (Hp.aU aO2) _).back gh2.next,(gh2.trans g5).dD _ (by omega)⟩
end
end Go.Proofs.Ytedneplaibmppaa
namespace Go.Proofs.Ytedneplaibmppaa
open Go.Rx Go.RowKit
attribute [local irreducible] E iV cellAt bM storeAt callable dz dI dP findKey eD bT Hp.at Hp.set Hp.lay dO dw setAt aJ dA bO dG Rnd gD fK iN Int.tmod Int.tdiv Int.fdiv
section
variable [bE]
attribute [local irreducible] sameAt lH
theorem Q6 (base:Int) (va vb:Value) (a b:List Int) (h:Hp) (ha:View h va a) (hb:View h vb b) (hla:a.length≤1000000) (hlb:b.length≤1000000):aJ E 50 [int base,va,vb] h (fun r h'=>((Mi base a b→r = .tuple ⟨[noM,int 1]⟩)∧(¬ Mi base a b→uZ h h' r (mR base.toNat (a ++ b) a.length)))∧aC h h'):=by
 obtain ⟨aa,ca,rfl⟩:=ha.known
 obtain ⟨ab,cb,rfl⟩:=hb.known
 obtain ⟨i25,t25,lI,lJ⟩:=Io
 refine enter50 (by simp) ?_
 conv=>whnf
 refine ak.cut (α:=Hp) (fun _=>[(6,ptr h.next 0),(0,int base),(1,.slice aa a.length ca),(2,.slice ab b.length cb)]) (fun x H=>x = H∧aC h H∧H.at h.next = some (.row 25 true [int 0,bg,bg])) ?_ ?_
 ·conv=>whnf
  exact ⟨_,⟨rfl,rfl,rfl,rfl,trivial⟩,⟨rfl,aC.lay _ _,Hp.aA _ _⟩,rfl⟩
 rintro H φ1 _ ⟨rfl,gH,aR⟩
 have bad:Mi base a b→∀ H,aC h H→(((Mi base a b→Value.tuple ⟨[noM,int 1]⟩ = .tuple ⟨[noM,int 1]⟩)∧(¬ Mi base a b→uZ h H (.tuple ⟨[noM,int 1]⟩) (mR base.toNat (a ++ b) a.length)))∧aC h H):=fun k H g=>⟨⟨fun _=>rfl,fun q=>absurd k q⟩,g⟩
 have IU:=Hp.aU aR
 have hRg:=Hp.bH (.row 25 true [int 0,bg,bg]) IU
 have gRg:aC h (H.set h.next (.row 25 true [int 0,bg,bg])):=gH.dD _ (Nat.le_refl _)
 conv=>whnf
 refine ak.cut (α:=Unit) (fun _=>[(6,ptr h.next 0),(0,int base),(1,.slice aa a.length ca),(2,.slice ab b.length cb)]) (fun _ H3=>H = H3∧2≤base∧base≤5∧a.length≤20∧1≤b.length∧b.length≤20) ?_ ?_
 ·conv=>whnf
  refine ak.go ?_
  conv=>whnf
  refine dB (fun q1=>?_) (fun q1=>?_)
  ·skip
   conv=>whnf
   refine ak.go ?_
   conv=>whnf
   refine ⟨rfl,_,bJ (vs:=[int 0,bg,bg]) aR rfl rfl rfl,?_⟩
   conv=>whnf
   exact fu (r:=h.next) (o:=0) (cs:=[int 0,bg,bg]) (w:=int 1) rfl rfl rfl t25 lI (by rw [lJ]; exact aM hRg rfl) (bad (.inl q1) _ gRg)
  conv=>whnf
  refine dB (fun q2=>?_) (fun q2=>?_)
  ·skip
   conv=>whnf
   refine ak.go ?_
   conv=>whnf
   refine ⟨rfl,_,bJ (vs:=[int 0,bg,bg]) aR rfl rfl rfl,?_⟩
   conv=>whnf
   exact fu (r:=h.next) (o:=0) (cs:=[int 0,bg,bg]) (w:=int 1) rfl rfl rfl t25 lI (by rw [lJ]; exact aM hRg rfl) (bad (.inr (.inl q2)) _ gRg)
  conv=>whnf
  refine dB (fun q3=>?_) (fun q3=>?_)
  ·skip
   conv=>whnf
   refine ak.go ?_
   conv=>whnf
   refine ⟨rfl,_,bJ (vs:=[int 0,bg,bg]) aR rfl rfl rfl,?_⟩
   conv=>whnf
   exact fu (r:=h.next) (o:=0) (cs:=[int 0,bg,bg]) (w:=int 1) rfl rfl rfl t25 lI (by rw [lJ]; exact aM hRg rfl) (bad (.inr (.inr (.inl (by omega)))) _ gRg)
  conv=>whnf
  refine dB (fun q4=>?_) (fun q4=>?_)
  ·skip
   conv=>whnf
   refine ak.go ?_
   conv=>whnf
   refine ⟨rfl,_,bJ (vs:=[int 0,bg,bg]) aR rfl rfl rfl,?_⟩
   conv=>whnf
   exact fu (r:=h.next) (o:=0) (cs:=[int 0,bg,bg]) (w:=int 1) rfl rfl rfl t25 lI (by rw [lJ]; exact aM hRg rfl) (bad (.inr (.inr (.inr (.inl (by omega))))) _ gRg)
  conv=>whnf
  refine dB (fun q5=>?_) (fun q5=>?_)
  ·skip
   conv=>whnf
   refine ak.go ?_
   conv=>whnf
   refine ⟨rfl,_,bJ (vs:=[int 0,bg,bg]) aR rfl rfl rfl,?_⟩
   conv=>whnf
   exact fu (r:=h.next) (o:=0) (cs:=[int 0,bg,bg]) (w:=int 1) rfl rfl rfl t25 lI (by rw [lJ]; exact aM hRg rfl) (bad (.inr (.inr (.inr (.inr (.inl (by omega)))))) _ gRg)
  conv=>whnf
  exact ⟨(),⟨rfl,rfl,rfl,rfl,trivial⟩,⟨rfl,by omega,by omega,by omega,by omega,by omega⟩,rfl⟩
 rintro _ φ2 _ ⟨rfl,hb2,hb5,hal,adY,hbl⟩
 conv=>whnf
 refine ak.cut (α:=Unit) (fun _=>[(6,ptr h.next 0),(0,int base),(1,.slice aa a.length ca),(2,.slice ab b.length cb)]) (fun _ H3=>H = H3∧(∀ x ∈ a,0≤x∧x≤9)∧∀ x ∈ b,0≤x∧x≤9) ?_ ?_
 ·conv=>whnf
  refine ak.go ?_
  conv=>whnf
  refine aJ.mono (wH _ a _ (ha.ext gH) hla) ?_
  rintro r _ ⟨⟨x,rfl,hx⟩,rfl⟩
  cases x with
  | false =>
   conv=>whnf
   refine ak.go ?_
   conv=>whnf
   refine ⟨rfl,_,bJ (vs:=[int 0,bg,bg]) aR rfl rfl rfl,?_⟩
   conv=>whnf
   exact fu (r:=h.next) (o:=0) (cs:=[int 0,bg,bg]) (w:=int 1) rfl rfl rfl t25 lI (by rw [lJ]; exact aM hRg rfl) (bad (.inr (.inr (.inr (.inr (.inr (.inl hx.f)))))) _ gRg)
  | true =>
   have hx1:=hx.t
   conv=>whnf
   refine aJ.mono (wH _ b _ (hb.ext gH) hlb) ?_
   rintro r _ ⟨⟨y,rfl,hy⟩,rfl⟩
   cases y with
   | false =>
    conv=>whnf
    refine ak.go ?_
    conv=>whnf
    refine ⟨rfl,_,bJ (vs:=[int 0,bg,bg]) aR rfl rfl rfl,?_⟩
    conv=>whnf
    exact fu (r:=h.next) (o:=0) (cs:=[int 0,bg,bg]) (w:=int 1) rfl rfl rfl t25 lI (by rw [lJ]; exact aM hRg rfl) (bad (.inr (.inr (.inr (.inr (.inr (.inr hy.f)))))) _ gRg)
   | true =>
    have hy1:=hy.t
    conv=>whnf
    exact ⟨(),⟨rfl,rfl,rfl,rfl,trivial⟩,⟨rfl,hx1,hy1⟩,rfl⟩
 rintro _ φ3 _ ⟨rfl,hx1,hy1⟩
 have hnb:¬ Mi base a b:=fun k=>by
  unfold Mi at k
  rcases k with k | k | k | k | k | k | k
  ·omega
  ·omega
  ·omega
  ·omega
  ·omega
  ·exact k hx1
  ·exact k hy1
 have IB:∃ k:Nat,base = k:=⟨base.toNat,by omega⟩
 obtain ⟨k,rfl⟩:=IB
 rw [Int.toNat_natCast]
 have hlen:(a ++ b).length = a.length + b.length:=List.length_append
 have hf:a.length < (a ++ b).length:=by omega
 have hro:=Sz (b:=k) (by omega) hf
 have hmul:(a ++ b).length * (a ++ b).length≤40 * 40:=Nat.mul_le_mul (by omega) (by omega)
 conv=>whnf
 refine ak.cut (α:=Option Addr×Nat×Hp) (fun s=>[(8,ptr s.2.1 0),(6,ptr h.next 0),(0,int k)]) (fun s H4=>s.2.2 = H4∧aC H s.2.2∧s.2.2.at s.2.1 = some (.row 121 true [.slice s.1 (a ++ b).length (a ++ b).length,int a.length])∧View s.2.2 (.slice s.1 (a ++ b).length (a ++ b).length) (a ++ b)) ?_ ?_
 ·conv=>whnf
  have gl1:aC H (H.lay (.row 22 true [.slice aa a.length ca,.slice ab b.length cb])):=aC.lay _ _
  refine aJ.mono (OT H.next true _ _ a b _ (Hp.aA _ _) (ha.ext (gH.trans gl1)) (hb.ext (gH.trans gl1)) (by omega) (by omega)) ?_
  rintro w H4 ⟨hw,g4⟩
  have hws:=hw.c.slice
  obtain ⟨aw,rfl,-⟩:=hws
  conv=>whnf
  refine ⟨rfl,_,cK (vs:=[.slice aw (a ++ b).length (a ++ b).length,int a.length]) rfl rfl rfl,?_⟩
  conv=>whnf
  exact ⟨(aw,H4.next,_),⟨rfl,rfl,rfl,trivial⟩,⟨rfl,(gl1.trans g4).bL _,Hp.aA _ _,(hw.view).ext (aC.lay _ _)⟩,rfl⟩
 rintro ⟨aw,G,H4⟩ φ4 _ ⟨rfl,g4,aG,hvw⟩
 dsimp only at g4 aG hvw ⊢
 have gh4:=gH.trans g4
 have aR4:=g4.at_ _ _ aR
 conv=>whnf
 refine ak.go ?_
 conv=>whnf
 refine ⟨_,aM aG rfl,?_⟩
 conv=>whnf
 refine aJ.mono (Q5 aw (a ++ b) a.length k _ hf (by omega) (by omega) hvw) ?_
 rintro w H5 ⟨hw,g5⟩
 conv=>whnf
 refine aJ.mono (EM _ (mR k (a ++ b) a.length) _ hw.mv hro.1 (by omega) (by show k≤1000; omega)) ?_
 rintro r H6 ⟨hr,g6⟩
 have hrk:=hr.known
 obtain ⟨a4,b4,c4,e4,rfl,o1,o2,o3⟩:=hrk
 have aR6:=g6.at_ _ _ (g5.at_ _ _ aR4)
 conv=>whnf
 refine ⟨rfl,_,bJ (vs:=[a4,b4,c4]) aR6 rfl (abG o1 o2 o3) rfl,?_⟩
 conv=>whnf
 refine fu (r:=h.next) (o:=0) (cs:=[a4,b4,c4]) (w:=int e4) rfl rfl rfl t25 lI ?_ ?_
 ·rw [lJ]
  exact aM (Hp.bH _ (Hp.aU aR6)) rfl
 ·have adZ:=Hp.aU aR4
  exact ⟨⟨fun q=>absurd q hnb,fun _=>(hr.put (by have:=g5.next; omega) _).back (by have:=g5.next; have:=gh4.next; omega)⟩,((gh4.trans g5).trans g6).dD _ (Nat.le_refl _)⟩
end
end Go.Proofs.Ytedneplaibmppaa
namespace Go.Proofs.Ytedneplaibmppaa
open Go.Rx
namespace Mac
def lY (m:Mac) (ls:List Int) (s:Nat):Nat→Int
 | 0=>-1
 | d + 1=>if gl ls (m.nx s d) < 0 then lY m ls s d else if lY m ls s d < 0∨gl ls (m.nx s d) * m.base + d < lY m ls s d then gl ls (m.nx s d) * m.base + d else lY m ls s d
def evK (m:Mac) (out:Int):Nat→List Int
 | 0=>m.out.map fun o=>if o = out then 0 else -1
 | k + 1=>(List.range m.out.length).map fun s=>m.lY (evK m out k) s m.base
def Lst (m:Mac) (out:Int) (P:List Nat→Prop) (v:Int):Prop:=(v = -1∧∀ w,¬ P w)∨∃ w,P w∧v = val m.base w∧∀ w',P w'→val m.base w≤val m.base w'
def Wk (m:Mac) (out:Int) (s k:Nat) (w:List Nat):Prop:=Wd m.base w∧w.length = k∧m.o (m.run s w) = out
theorem oH (m:Mac) (out:Int):∀ k,(m.evK out k).length = m.out.length
 | 0=>by simp [evK]
 | k + 1=>by simp [evK]
theorem XM {m:Mac} {out:Int} {k s:Nat} (hs:s < m.out.length):gl (m.evK out (k + 1)) s = m.lY (m.evK out k) s m.base:=by
 rw [nA (by rw [oH]; exact hs)]
 simp [evK]
theorem SA {m:Mac} {out:Int} {k s:Nat} (hm:m.Ok) (hs:s < m.out.length) (ih:∀ t,t < m.out.length→m.Lst out (m.Wk out t k) (gl (m.evK out k) t)):∀ d,d≤m.base→m.Lst out (fun w=>m.Wk out s (k + 1) w∧∃ c v,w = c :: v∧c < d) (m.lY (m.evK out k) s d)
 | 0,_=>.inl ⟨rfl,fun w ⟨_,c,v,_,h⟩=>Nat.not_lt_zero _ h⟩
 | d + 1,hd=>by
  have ihd:=SA hm hs ih d (by omega)
  have hn:=hm.lt s d hs (by omega)
  have iht:=ih _ hn
  unfold lY
  have IY:∀ w,(m.Wk out s (k + 1) w∧∃ c v,w = c :: v∧c < d + 1)→(m.Wk out s (k + 1) w∧∃ c v,w = c :: v∧c < d)∨∃ v,w = d :: v∧m.Wk out (m.nx s d) k v:=by
   rintro w ⟨⟨h1,h2,h3⟩,c,v,rfl,hc⟩
   by_cases e:c = d
   ·subst e
    exact .inr ⟨v,rfl,fun x hx=>h1 x (by simp [hx]),by simpa using h2,h3⟩
   ·exact .inl ⟨⟨h1,h2,h3⟩,c,v,rfl,by omega⟩
  have up:∀ v,m.Wk out (m.nx s d) k v→m.Wk out s (k + 1) (d :: v):=fun v ⟨h1,h2,h3⟩=>⟨Wd.cons (by omega) h1,by simp [h2],h3⟩
  rcases iht with ⟨e1,hno⟩ | ⟨v,hv,e1,hmin⟩
  ·rw [if_pos (by rw [e1]; omega)]
   rcases ihd with ⟨e2,aaS⟩ | ⟨w,⟨hw,c,u,ew,hc⟩,e2,SB⟩
   ·refine .inl ⟨e2,fun w h=>?_⟩
    rcases IY w h with h2 | ⟨v,rfl,h2⟩
    ·exact aaS w h2
    ·exact hno v h2
   ·refine .inr ⟨w,⟨hw,c,u,ew,by omega⟩,e2,fun w' h=>?_⟩
    rcases IY w' h with h2 | ⟨v,rfl,h2⟩
    ·exact SB w' h2
    ·exact (hno v h2).elim
  ·have ev:gl (m.evK out k) (m.nx s d) * (m.base:Int) + d = (val m.base (d :: v):Nat):=by
    rw [e1]
    show _ = ((d + m.base * val m.base v:Nat):Int)
    rw [Int.natCast_add,Int.natCast_mul,Int.mul_comm]
    omega
   rw [if_neg (by rw [e1]; omega),ev]
   have XO:∀ v',m.Wk out (m.nx s d) k v'→val m.base (d :: v)≤val m.base (d :: v'):=fun v' h=>by
    show d + m.base * val m.base v≤d + m.base * val m.base v'
    have:=Nat.mul_le_mul_left m.base (hmin v' h)
    omega
   rcases ihd with ⟨e2,aaS⟩ | ⟨w,⟨hw,c,u,ew,hc⟩,e2,SB⟩
   ·rw [if_pos (.inl (by rw [e2]; omega))]
    refine .inr ⟨d :: v,⟨up v hv,d,v,rfl,by omega⟩,rfl,fun w' h=>?_⟩
    rcases IY w' h with h2 | ⟨v',rfl,h2⟩
    ·exact (aaS w' h2).elim
    ·exact XO v' h2
   ·rw [e2]
    by_cases hlt:((val m.base (d :: v):Nat):Int) < (val m.base w:Nat)
    ·rw [if_pos (.inr hlt)]
     refine .inr ⟨d :: v,⟨up v hv,d,v,rfl,by omega⟩,rfl,fun w' h=>?_⟩
     rcases IY w' h with h2 | ⟨v',rfl,h2⟩
     ·have:=SB w' h2; omega
     ·exact XO v' h2
    ·rw [if_neg (by omega)]
     refine .inr ⟨w,⟨hw,c,u,ew,by omega⟩,rfl,fun w' h=>?_⟩
     rcases IY w' h with h2 | ⟨v',rfl,h2⟩
     ·exact SB w' h2
     ·have:=XO v' h2; omega
theorem XP {m:Mac} (hm:m.Ok) (out:Int):∀ (k s:Nat),s < m.out.length→m.Lst out (m.Wk out s k) (gl (m.evK out k) s)
 | 0,s,hs=>by
  have e:gl (m.evK out 0) s = if m.o s = out then 0 else -1:=by
   rw [nA (by rw [oH]; exact hs)]
   have e2:m.o s = m.out[s]:=nA hs
   simp [evK,e2]
  rw [e]
  by_cases h:m.o s = out
  ·rw [if_pos h]
   exact .inr ⟨[],⟨by simp [Wd],rfl,h⟩,rfl,fun w' _=>Nat.zero_le _⟩
  ·rw [if_neg h]
   refine .inl ⟨rfl,fun w ⟨_,h2,h3⟩=>?_⟩
   have:w = []:=List.eq_nil_of_length_eq_zero h2
   subst this
   exact h h3
 | k + 1,s,hs=>by
  rw [XM hs]
  have h:=SA hm hs (XP hm out k) m.base (Nat.le_refl _)
  have abV:∀ w,m.Wk out s (k + 1) w→∃ c v,w = c :: v∧c < m.base:=fun w ⟨h1,h2,_⟩=>by
   cases w with
   | nil=>simp at h2
   | cons c v=>exact ⟨c,v,rfl,h1 c (by simp)⟩
  rcases h with ⟨e,hno⟩ | ⟨w,⟨hw,_⟩,e,hmin⟩
  ·exact .inl ⟨e,fun w h=>hno w ⟨h,abV w h⟩⟩
  ·exact .inr ⟨w,hw,e,fun w' h=>hmin w' ⟨h,abV w' h⟩⟩
theorem aaT {m:Mac} (hm:m.Ok) (out:Int) {k s:Nat} (hs:s < m.out.length):-1≤gl (m.evK out k) s∧gl (m.evK out k) s < (m.base ^ k:Nat):=by
 rcases XP hm out k s hs with ⟨e,_⟩ | ⟨w,⟨h1,h2,_⟩,e,_⟩
 ·rw [e]
  have:=Nat.pow_pos (n:=k) (show 0 < m.base from hm.b1)
  omega
 ·rw [e]
  have:=Qy hm.b1 h1
  rw [h2] at this
  omega
end Mac
end Go.Proofs.Ytedneplaibmppaa
