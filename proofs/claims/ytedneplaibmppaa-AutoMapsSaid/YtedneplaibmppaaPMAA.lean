/- Contracts of the functions that PMAH comes to. -/
import Derived.Test.YtedneplaibmppaaWx26
import Derived.Test.YtedneplaibmppaaCodePMAH
import Derived.Test.YtedneplaibmppaaWx24
import Derived.Test.YtedneplaibmppaaWx27
set_option maxRecDepth 100000
set_option maxHeartbeats 2000000
set_option linter.unusedVariables false
set_option linter.unusedSectionVars false
set_option linter.unusedSimpArgs false
namespace Go.Proofs.Ytedneplaibmppaa
/-! Numbering by first occurrence. -/
section
variable {κ:Type} [DecidableEq κ]
theorem ng {l r:List κ}{x:κ}(h:x ∈ l):(l ++ r).idxOf x = l.idxOf x:=by
 rw [List.idxOf_append,if_pos h]
theorem Ef {l:List κ}{x:κ}(h:x ∉ l):(l ++ [x]).idxOf x = l.length:=by
 rw [List.idxOf_append,if_neg h]; simp
theorem vk {l:List κ}{x:κ}(h:x ∈ l):l[l.idxOf x]? = some x:=by
 have hl:=List.idxOf_lt_length_of_mem h;rw [List.getElem?_eq_getElem hl,List.getElem_idxOf hl]
theorem U4 {l:List κ}(hn:l.Nodup){i:Nat}{x:κ}(h:l[i]? = some x):l.idxOf x = i:=by
 obtain ⟨hi,e⟩:=List.getElem?_eq_some_iff.1 h;subst e;exact hn.idxOf_getElem i hi
theorem U5 {l:List κ}{x y:κ}(hx:x ∈ l)(hy:y ∈ l)(e:l.idxOf x = l.idxOf y):x = y:=by
 have a:=vk hx;have b:=vk hy;rw [e,b] at a;exact (Option.some.inj a).symm
def note (L:List κ)(x:κ):List κ:=if x ∈ L then L else L ++ [x]
theorem nN (L:List κ)(x:κ):x ∈ note L x:=by
 unfold note; split
 ·assumption
 ·simp
theorem XO {L:List κ}{x y:κ}(h:y ∈ L):y ∈ note L x:=by
 unfold note; split
 ·assumption
 ·exact List.mem_append_left _ h
theorem XP {L:List κ}{x y:κ}(h:y ∈ note L x):y ∈ L∨y = x:=by
 unfold note at h; split at h
 ·exact .inl h
 ·rcases List.mem_append.1 h with h | h
  ·exact .inl h
  ·exact .inr (List.mem_singleton.1 h)
theorem QZ {L:List κ}{x:κ}(h:L.Nodup):(note L x).Nodup:=by
 unfold note; split
 ·exact h
 ·rename_i hx;rw [List.nodup_append];exact ⟨h,by simp,fun a ha b hb=>by rw [List.mem_singleton.1 hb]; exact fun e=>hx (e ▸ ha)⟩
theorem rH (L:List κ)(x:κ):∃ r,note L x = L ++ r:=by
 unfold note; split
 ·exact ⟨[],by simp⟩
 ·exact ⟨[x],rfl⟩
def notes:List κ→List κ→List κ
 | L,[]=>L
 | L,x :: l=>notes (note L x) l
theorem gJ:∀ (l L:List κ),∃ r,notes L l = L ++ r
 | [],L=>⟨[],by simp [notes]⟩
 | x :: l,L=>by
  obtain ⟨r,e⟩:=rH L x;obtain ⟨r2,e2⟩:=gJ l (note L x);exact ⟨r ++ r2,by show notes (note L x) l = _; rw [e2,e,List.append_assoc]⟩
theorem Kc {l L:List κ}{y:κ}(h:y ∈ L):y ∈ notes L l:=by
 obtain ⟨r,e⟩:=gJ l L;rw [e]; exact List.mem_append_left _ h
theorem fZ:∀ {l L:List κ} {y:κ},y ∈ l→y ∈ notes L l
 | x :: l,L,y,h=>by
  show y ∈ notes (note L x) l;rcases List.mem_cons.1 h with rfl | h
  ·exact Kc (nN L y)
  ·exact fZ h
theorem j3:∀ {l L:List κ} {y:κ},y ∈ notes L l→y ∈ L∨y ∈ l
 | [],L,y,h=>.inl h
 | x :: l,L,y,h=>by
  rcases j3 (l:=l) (show y ∈ notes (note L x) l from h) with h | h
  ·rcases XP h with h | rfl
   ·exact .inl h
   ·exact .inr (by simp)
  ·exact .inr (by simp [h])
theorem jc:∀ {l L:List κ},L.Nodup→(notes L l).Nodup
 | [],L,h=>h
 | x :: l,L,h=>jc (l:=l) (QZ h)
theorem wP:∀ (l r L:List κ),notes L (l ++ r) = notes (notes L l) r
 | [],r,L=>rfl
 | x :: l,r,L=>wP l r (note L x)
theorem iF (l L:List κ)(x:κ):notes L (l ++ [x]) = note (notes L l) x:=wP l [x] L
theorem j4:∀ {l r:List κ},l.Nodup→(∀ x ∈ l,x ∈ r)→l.length≤r.length
 | [],_,_,_=>Nat.zero_le _
 | x :: l,r,hn,h=>by
  have hc:=List.nodup_cons.1 hn;have h1:=j4 (l:=l) (r:=r.erase x) hc.2 (fun y hy=>(List.mem_erase_of_ne (fun e=>by subst e; exact hc.1 hy)).2 (h y (by simp [hy])));have h2:=h x (by simp);rw [List.length_erase_of_mem h2] at h1;have:=List.length_pos_of_mem h2;simp only [List.length_cons]; omega
theorem Ih:∀ {l r:List κ},l.Nodup→(∀ x ∈ l,x ∈ r)→r.length≤l.length→r.Nodup
 | [],r,_,_,hl=>by
  have:r = []:=List.eq_nil_of_length_eq_zero (by simpa using hl);rw [this]; simp
 | x :: l,r,hn,h,hl=>by
  have hc:=List.nodup_cons.1 hn;have h2:=h x (by simp);have hle:=List.length_erase_of_mem h2;have hpos:=List.length_pos_of_mem h2;simp only [List.length_cons] at hl;have hs:∀ y ∈ l,y ∈ r.erase x:=fun y hy=>(List.mem_erase_of_ne (fun e=>by subst e; exact hc.1 hy)).2 (h y (by simp [hy]));have h1:=Ih (l:=l) (r:=r.erase x) hc.2 hs (by omega);have hx:x ∉ r.erase x:=fun hx=>by
   have:=j4 (l:=x :: l) (r:=r.erase x) hn (fun y hy=>by
    rcases List.mem_cons.1 hy with rfl | hy
    ·exact hx
    ·exact hs y hy)
   simp only [List.length_cons] at this;omega
  have hp:=(List.perm_cons_erase h2).nodup_iff.2 (List.nodup_cons.2 ⟨hx,h1⟩);exact hp
def num (ks:List κ):List Int:=ks.map fun k=>(((notes [] ks).idxOf k:Nat):Int)
def many (ks:List κ):Nat:=(notes [] ks).length
theorem qC (ks:List κ):(num ks).length = ks.length:=by unfold num; rw [List.length_map]
theorem wQ {ks:List κ}{i:Nat}{k:κ}(h:ks[i]? = some k):(num ks)[i]? = some (((notes [] ks).idxOf k:Nat):Int):=by
 unfold num; rw [List.getElem?_map,h]; rfl
theorem XQ {ks:List κ}{i j:Nat}{a b:κ}(hi:ks[i]? = some a)(hj:ks[j]? = some b):(num ks)[i]? = (num ks)[j]?↔a = b:=by
 rw [wQ hi,wQ hj];constructor
 ·intro e;have e':=Int.ofNat.inj (Option.some.inj e);exact U5 (l:=notes [] ks) (fZ (List.mem_of_getElem? hi)) (fZ (List.mem_of_getElem? hj)) e'
 ·rintro rfl; rfl
theorem Mf (ks:List κ):many ks≤ks.length:=j4 (jc List.nodup_nil) fun x hx=>by
 rcases j3 hx with h | h
 ·simp at h
 ·exact h
theorem OP {ks:List κ}(h:ks≠[]):1≤many ks:=by
 cases ks with
 | nil=>exact absurd rfl h
 | cons x l=>exact List.length_pos_of_mem (fZ (l:=x :: l) (L:=[]) (List.mem_cons_self ..))
variable {κ':Type} [DecidableEq κ']
theorem U6 {ks:List κ}(g:κ→κ'):many (ks.map g)≤many ks:=by
 unfold many;have:=j4 (l:=notes [] (ks.map g)) (r:=(notes [] ks).map g) (jc List.nodup_nil) (fun x hx=>by
  rcases j3 hx with h | h
  ·simp at h
  ·obtain ⟨y,hy,rfl⟩:=List.mem_map.1 h;exact List.mem_map_of_mem (fZ hy))
 rw [List.length_map] at this;exact this
theorem Au {f:κ→κ'}:∀ {l:List κ},(l.map f).Nodup→∀ a ∈ l,∀ b ∈ l,f a = f b→a = b
 | x :: l,h,a,ha,b,hb,e=>by
  rw [List.map_cons,List.nodup_cons] at h;rcases List.mem_cons.1 ha with ea | ha <;> rcases List.mem_cons.1 hb with eb | hb
  ·rw [ea,eb]
  ·exact absurd (by rw [← ea,e]; exact List.mem_map_of_mem hb) h.1
  ·exact absurd (by rw [← eb,← e]; exact List.mem_map_of_mem ha) h.1
  ·exact Au h.2 a ha b hb e
theorem Zm {ks:List κ}{g:κ→κ'}(h:many ks = many (ks.map g)):∀ a ∈ ks,∀ b ∈ ks,g a = g b→a = b:=by
 have hn:=Ih (l:=notes [] (ks.map g)) (r:=(notes [] ks).map g) (jc List.nodup_nil) (fun x hx=>by
  rcases j3 hx with h | h
  ·simp at h
  ·obtain ⟨y,hy,rfl⟩:=List.mem_map.1 h;exact List.mem_map_of_mem (fZ hy)) (by
  rw [List.length_map]; unfold many at h; omega)
 exact fun a ha b hb e=>Au hn a (fZ ha) b (fZ hb) e
theorem yR:∀ {Z:List (κ×κ')} {z:κ×κ'},(∀ x ∈ z :: Z,∀ y ∈ z :: Z,x.1 = y.1↔x.2 = y.2)→(Z.map (·.1)).idxOf z.1 = (Z.map (·.2)).idxOf z.2
 | [],z,h=>rfl
 | y :: Z,z,h=>by
  have ih:=yR (Z:=Z) (z:=z) (fun a ha b hb=>h a (by simp at ha ⊢; rcases ha with h | h <;> simp [h]) b (by simp at hb ⊢; rcases hb with h | h <;> simp [h]));have e:=h y (by simp) z (by simp);simp only [List.map_cons,List.idxOf_cons];by_cases hc:y.1 = z.1
  ·rw [beq_iff_eq.2 hc,beq_iff_eq.2 (e.1 hc)]; rfl
  ·rw [beq_eq_false_iff_ne.2 hc,beq_eq_false_iff_ne.2 (fun q=>hc (e.2 q))];dsimp only [cond];rw [ih]
theorem U7 {Z:List (κ×κ')}{z:κ×κ'}(h:∀ x ∈ z :: Z,∀ y ∈ z :: Z,x.1 = y.1↔x.2 = y.2):z.1 ∈ Z.map (·.1)↔z.2 ∈ Z.map (·.2):=by
 constructor
 ·intro k;obtain ⟨y,hy,e⟩:=List.mem_map.1 k;rw [← (h y (by simp [hy]) z (by simp)).1 e];exact List.mem_map_of_mem hy
 ·intro k;obtain ⟨y,hy,e⟩:=List.mem_map.1 k;rw [← (h y (by simp [hy]) z (by simp)).2 e];exact List.mem_map_of_mem hy
theorem tu:∀ {zs Z:List (κ×κ')},(∀ x ∈ Z ++ zs,∀ y ∈ Z ++ zs,x.1 = y.1↔x.2 = y.2)→∃ W:List (κ×κ'),(∀ x ∈ W,x ∈ Z ++ zs)∧notes (Z.map (·.1)) (zs.map (·.1)) = W.map (·.1)∧notes (Z.map (·.2)) (zs.map (·.2)) = W.map (·.2)
 | [],Z,h=>⟨Z,fun x hx=>by simpa using hx,rfl,rfl⟩
 | z :: zs,Z,h=>by
  have hm:z.1 ∈ Z.map (·.1)↔z.2 ∈ Z.map (·.2):=U7 fun x hx y hy=>h x (by simp at hx ⊢; rcases hx with h | h <;> simp [h]) y (by simp at hy ⊢; rcases hy with h | h <;> simp [h]);by_cases hc:z.1 ∈ Z.map (·.1)
  ·obtain ⟨W,h1,h2,h3⟩:=tu (zs:=zs) (Z:=Z) (fun x hx y hy=>h x (by simp at hx ⊢; rcases hx with h | h <;> simp [h]) y (by simp at hy ⊢; rcases hy with h | h <;> simp [h]));refine ⟨W,fun x hx=>by have:=h1 x hx; simp at this ⊢; rcases this with h | h <;> simp [h],?_,?_⟩
   ·show notes (note (Z.map (·.1)) z.1) (zs.map (·.1)) = _;unfold note; rw [if_pos hc,h2]
   ·show notes (note (Z.map (·.2)) z.2) (zs.map (·.2)) = _;unfold note; rw [if_pos (hm.1 hc),h3]
  ·obtain ⟨W,h1,h2,h3⟩:=tu (zs:=zs) (Z:=Z ++ [z]) (fun x hx y hy=>h x (by simpa using hx) y (by simpa using hy));refine ⟨W,fun x hx=>by simpa using h1 x hx,?_,?_⟩
   ·show notes (note (Z.map (·.1)) z.1) (zs.map (·.1)) = _;unfold note; rw [if_neg hc,← h2,List.map_append]; rfl
   ·show notes (note (Z.map (·.2)) z.2) (zs.map (·.2)) = _;unfold note; rw [if_neg (fun q=>hc (hm.2 q)),← h3,List.map_append]; rfl
theorem Eh {zs:List (κ×κ')}(h:∀ x ∈ zs,∀ y ∈ zs,x.1 = y.1↔x.2 = y.2):num (zs.map (·.1)) = num (zs.map (·.2))∧many (zs.map (·.1)) = many (zs.map (·.2)):=by
 obtain ⟨W,h1,h2,h3⟩:=tu (zs:=zs) (Z:=[]) (by simpa using h);simp only [List.map_nil,List.nil_append] at h1 h2 h3;unfold num many;rw [h2,h3];refine ⟨?_,by rw [List.length_map,List.length_map]⟩;rw [List.map_map,List.map_map];refine List.map_congr_left fun z hz=>?_;show ((((W.map (·.1)).idxOf z.1:Nat)):Int) = (((W.map (·.2)).idxOf z.2:Nat):Int);rw [yR];intro x hx y hy;have q:∀ x ∈ z :: W,x ∈ zs:=fun x hx=>by
  rcases List.mem_cons.1 hx with rfl | hx
  ·exact hz
  ·exact h1 x hx
 exact h x (q x hx) y (q y hy)
end
/-! Machines. -/
structure Mac where
 base:Nat
 out:List Int
 next:List (List Nat)
namespace Mac
def o (m:Mac)(s:Nat):Int:=m.out.getD s 0
def nx (m:Mac)(s d:Nat):Nat:=(m.next.getD s []).getD d 0
def n (m:Mac):Nat:=m.out.length
def run (m:Mac):Nat→List Nat→Nat
 | s,[]=>s
 | s,d :: w=>run m (m.nx s d) w
structure Ok (m:Mac):Prop where
 b1:1≤m.base
 n1:1≤m.out.length
 len:m.next.length = m.out.length
 row:∀ s,s < m.out.length→(m.next.getD s []).length = m.base
 lt:∀ s d,s < m.out.length→d < m.base→m.nx s d < m.out.length
def Wd (b:Nat)(w:List Nat):Prop:=∀ d ∈ w,d < b
theorem Wd.cons {b d:Nat}{w:List Nat}(h:d < b)(k:Wd b w):Wd b (d :: w):=fun x hx=>by
 rcases List.mem_cons.1 hx with rfl | hx
 ·exact h
 ·exact k x hx
theorem Ok.run {m:Mac}(h:m.Ok):∀ {w:List Nat} {s:Nat},s < m.out.length→Wd m.base w→m.run s w < m.out.length
 | [],s,hs,_=>hs
 | d :: w,s,hs,hw=>h.run (w:=w) (h.lt s d hs (hw d (by simp))) fun x hx=>hw x (by simp [hx])
theorem FP (m:Mac):∀ (w v:List Nat) (s:Nat),m.run s (w ++ v) = m.run (m.run s w) v
 | [],v,s=>rfl
 | d :: w,v,s=>FP m w v (m.nx s d)
def Alike (m m':Mac)(s t:Nat):Prop:=∀ w,Wd m.base w→m.o (m.run s w) = m'.o (m'.run t w)
theorem Alike.step {m m':Mac}{s t:Nat}(h:Alike m m' s t){d:Nat}(hd:d < m.base):Alike m m' (m.nx s d) (m'.nx t d):=fun w hw=>h (d :: w) (Wd.cons hd hw)
theorem Alike.run {m m':Mac}:∀ {w:List Nat} {s t:Nat},Alike m m' s t→Wd m.base w→Alike m m' (m.run s w) (m'.run t w)
 | [],s,t,h,_=>h
 | d :: w,s,t,h,hw=>(h.step (hw d (by simp))).run (w:=w) fun x hx=>hw x (by simp [hx])
theorem Alike.symm {m m':Mac}{s t:Nat}(hb:m.base = m'.base)(h:Alike m m' s t):Alike m' m t s:=fun w hw=>(h w (by rw [hb]; exact hw)).symm
theorem Alike.trans {m m' m'':Mac}{s t u:Nat}(hb:m.base = m'.base)(h:Alike m m' s t)(k:Alike m' m'' t u):Alike m m'' s u:=fun w hw=>(h w hw).trans (k w (hb ▸ hw))
def key (m:Mac)(c:List Int)(s:Nat):Int×List Int:=(c.getD s 0,(List.range m.base).map fun d=>c.getD (m.nx s d) 0)
def keys (m:Mac)(c:List Int):List (Int×List Int):=(List.range m.out.length).map (m.key c)
def ref (m:Mac)(c:List Int):List Int:=num (m.keys c)
def cnt (m:Mac)(c:List Int):Nat:=many (m.keys c)
def Jy (m:Mac):Nat→List Int→Nat→List Int
 | 0,c,_=>c
 | f + 1,c,k=>if m.cnt c = k then c else Jy m f (m.ref c) (m.cnt c)
def cls (m:Mac):List Int:=m.Jy m.out.length (m.ref m.out) (m.cnt m.out)
theorem CX (m:Mac)(c:List Int):(m.keys c).length = m.out.length:=by unfold keys; rw [List.length_map,List.length_range]
theorem vw {m:Mac}{c:List Int}{s:Nat}(h:s < m.out.length):(m.keys c)[s]? = some (m.key c s):=by
 unfold keys; rw [List.getElem?_map,List.getElem?_range h]; rfl
theorem zY (m:Mac)(c:List Int):(m.ref c).length = m.out.length:=by unfold ref; rw [qC,CX]
theorem Ii {m:Mac}{c:List Int}{s t:Nat}(hs:s < m.out.length)(ht:t < m.out.length):(m.ref c).getD s 0 = (m.ref c).getD t 0↔m.key c s = m.key c t:=by
 have h:=XQ (vw (c:=c) hs) (vw (c:=c) ht);unfold ref;rw [← h,List.getD_eq_getElem?_getD,List.getD_eq_getElem?_getD,wQ (vw hs),wQ (vw ht)];simp
theorem key_eq {m:Mac}{c:List Int}{s t:Nat}:m.key c s = m.key c t↔c.getD s 0 = c.getD t 0∧∀ d,d < m.base→c.getD (m.nx s d) 0 = c.getD (m.nx t d) 0:=by
 unfold key;rw [Prod.mk.injEq];constructor
 ·rintro ⟨h1,h2⟩;refine ⟨h1,fun d hd=>?_⟩;have:=congrArg (fun l=>l[d]?) h2;simpa [List.getElem?_map,List.getElem?_range hd] using this
 ·rintro ⟨h1,h2⟩;refine ⟨h1,List.map_congr_left fun d hd=>h2 d (List.mem_range.1 hd)⟩
structure Good (m:Mac) (c:List Int) (j k:Nat):Prop where
 len:c.length = m.out.length
 out:∀ s t,s < m.out.length→t < m.out.length→c.getD s 0 = c.getD t 0→m.o s = m.o t
 sep:∀ s t,s < m.out.length→t < m.out.length→c.getD s 0≠c.getD t 0→∃ w,Wd m.base w∧w.length≤j∧m.o (m.run s w)≠m.o (m.run t w)
 cnt:k = many ((List.range m.out.length).map fun s=>c.getD s 0)
 le:j≤k
theorem OQ (m:Mac)(c:List Int):many ((List.range m.out.length).map fun s=>(m.ref c).getD s 0) = m.cnt c:=by
 have h:=(Eh (zs:=(List.range m.out.length).map fun s=>((m.ref c).getD s 0,m.key c s)) (fun x hx y hy=>by
  obtain ⟨s,hs,rfl⟩:=List.mem_map.1 hx;obtain ⟨t,ht,rfl⟩:=List.mem_map.1 hy;exact Ii (List.mem_range.1 hs) (List.mem_range.1 ht))).2
 rw [List.map_map,List.map_map] at h;exact h
theorem Td {m:Mac}{c:List Int}{j:Nat}(hm:m.Ok)(h:∀ s t,s < m.out.length→t < m.out.length→c.getD s 0≠c.getD t 0→∃ w,Wd m.base w∧w.length≤j∧m.o (m.run s w)≠m.o (m.run t w)){s t:Nat}(hs:s < m.out.length)(ht:t < m.out.length)(e:m.key c s≠m.key c t):∃ w,Wd m.base w∧w.length≤j + 1∧m.o (m.run s w)≠m.o (m.run t w):=by
 by_cases h1:c.getD s 0 = c.getD t 0
 ·have:∃ d,d < m.base∧c.getD (m.nx s d) 0≠c.getD (m.nx t d) 0:=by
   by_cases hx:∃ d,d < m.base∧c.getD (m.nx s d) 0≠c.getD (m.nx t d) 0
   ·exact hx
   ·refine absurd (key_eq.2 ⟨h1,fun d hd=>?_⟩) e;by_cases hq:c.getD (m.nx s d) 0 = c.getD (m.nx t d) 0
    ·exact hq
    ·exact absurd ⟨d,hd,hq⟩ hx
  obtain ⟨d,hd,hq⟩:=this;obtain ⟨w,h2,h3,h4⟩:=h _ _ (hm.lt s d hs hd) (hm.lt t d ht hd) hq;exact ⟨d :: w,Wd.cons hd h2,by simp; omega,h4⟩
 ·obtain ⟨w,h2,h3,h4⟩:=h _ _ hs ht h1;exact ⟨w,h2,by omega,h4⟩
theorem XR {m:Mac}(hm:m.Ok){α:Type}(f:Nat→α):(List.range m.out.length).map f≠[]:=fun e=>by
 have h1:=congrArg List.length e;have h2:=hm.n1;rw [List.length_map,List.length_range] at h1;simp only [List.length_nil] at h1;omega
theorem Good.start {m:Mac}(hm:m.Ok):Good m (m.ref m.out) 1 (m.cnt m.out) where
 len:=zY _ _
 out:=fun s t hs ht e=>(key_eq.1 ((Ii hs ht).1 e)).1
 sep:=fun s t hs ht e=>Td (j:=0) hm (fun s t _ _ h=>⟨[],by simp [Wd],Nat.le_refl _,h⟩) hs ht fun k=>e ((Ii hs ht).2 k)
 cnt:=(OQ m m.out).symm
 le:=OP (XR hm _)
theorem Mg (m:Mac)(c:List Int):many ((List.range m.out.length).map fun s=>c.getD s 0)≤m.cnt c:=by
 have:=U6 (ks:=m.keys c) (fun k=>k.1);unfold keys at this;rw [List.map_map] at this;exact this
theorem Good.next {m:Mac}(hm:m.Ok){c:List Int}{j k:Nat}(g:Good m c j k)(h:m.cnt c≠k):Good m (m.ref c) (j + 1) (m.cnt c) where
 len:=zY _ _
 out:=fun s t hs ht e=>g.out s t hs ht (key_eq.1 ((Ii hs ht).1 e)).1
 sep:=fun s t hs ht e=>Td hm g.sep hs ht fun k=>e ((Ii hs ht).2 k)
 cnt:=(OQ m c).symm
 le:=by have:=Mg m c; have:=g.cnt; have:=g.le; omega
structure XT (m:Mac) (c:List Int) (j:Nat):Prop extends Good m c j (m.cnt c) where
 adI:∀ s t,s < m.out.length→t < m.out.length→c.getD s 0 = c.getD t 0→∀ d,d < m.base→c.getD (m.nx s d) 0 = c.getD (m.nx t d) 0
theorem Mh (m:Mac)(c:List Int):m.cnt c≤m.out.length:=by
 have:=Mf (m.keys c);rw [CX] at this;exact this
theorem Good.fine {m:Mac}{c:List Int}{j:Nat}(g:Good m c j (m.cnt c)):XT m c j:=⟨g,fun s t hs ht e=>by
 have h:=Zm (ks:=m.keys c) (g:=fun k=>k.1) (by
  have:=g.cnt;unfold keys;rw [List.map_map];exact this) (m.key c s) (List.mem_of_getElem? (vw hs)) (m.key c t) (List.mem_of_getElem? (vw ht)) e
 exact (key_eq.1 h).2⟩
theorem Ke {m:Mac}(hm:m.Ok):∀ (f:Nat) (c:List Int) (j k:Nat),Good m c j k→m.out.length + 1≤f + k→∃ j',XT m (m.Jy f c k) j'∧j'≤m.out.length
 | 0,c,j,k,g,hf=>by
  have:=g.cnt;have h2:=Mf ((List.range m.out.length).map fun s=>c.getD s 0);rw [List.length_map,List.length_range] at h2;omega
 | f + 1,c,j,k,g,hf=>by
  unfold Jy;by_cases h:m.cnt c = k
  ·rw [if_pos h];subst h;exact ⟨j,g.fine,Nat.le_trans g.le (Mh _ _)⟩
  ·rw [if_neg h];have:=Mg m c;have:=g.cnt;exact Ke hm f _ _ _ (g.next hm h) (by omega)
theorem Ij {m:Mac}(hm:m.Ok):∃ j,XT m m.cls j∧j≤m.out.length:=Ke hm _ _ _ _ (Good.start hm) (by have:=(Good.start hm).le; omega)
theorem nO {m:Mac}(hm:m.Ok):m.cls.length = m.out.length:=(Ij hm).elim fun _ h=>h.1.len
theorem XT.alike {m:Mac}(hm:m.Ok){c:List Int}{j:Nat}(h:XT m c j):∀ {w:List Nat} {s t:Nat},s < m.out.length→t < m.out.length→c.getD s 0 = c.getD t 0→Wd m.base w→m.o (m.run s w) = m.o (m.run t w)
 | [],s,t,hs,ht,e,_=>h.out s t hs ht e
 | d :: w,s,t,hs,ht,e,hw=>h.alike hm (w:=w) (hm.lt s d hs (hw d (by simp))) (hm.lt t d ht (hw d (by simp))) (h.adI s t hs ht e d (hw d (by simp))) fun x hx=>hw x (by simp [hx])
theorem Te {m:Mac}(hm:m.Ok){s t:Nat}(hs:s < m.out.length)(ht:t < m.out.length):m.cls.getD s 0 = m.cls.getD t 0↔Alike m m s t:=by
 obtain ⟨j,h,-⟩:=Ij hm;constructor
 ·exact fun e w hw=>h.alike hm hs ht e hw
 ·intro k;by_cases e:m.cls.getD s 0 = m.cls.getD t 0
  ·exact e
  ·obtain ⟨w,h1,_,h2⟩:=h.sep s t hs ht e;exact absurd (k w h1) h2
theorem ab7 {m:Mac}(hm:m.Ok){s t:Nat}(hs:s < m.out.length)(ht:t < m.out.length)(h:¬ Alike m m s t):∃ w,Wd m.base w∧w.length≤m.out.length∧m.o (m.run s w)≠m.o (m.run t w):=by
 obtain ⟨j,k,hj⟩:=Ij hm;obtain ⟨w,h1,h2,h3⟩:=k.sep s t hs ht fun e=>h ((Te hm hs ht).1 e);exact ⟨w,h1,by omega,h3⟩
end Mac
end Go.Proofs.Ytedneplaibmppaa
namespace Go.Proofs.Ytedneplaibmppaa
/-! States that are met one after another. -/
section
variable {S:Type} [DecidableEq S] {S':Type} [DecidableEq S']
def outs (next:S→Nat→S)(b:Nat)(s:S):List S:=(List.range b).map (next s)
inductive oI (next:S→Nat→S) (b:Nat):List S→Nat→List S→Prop
 | done {L k}:L.length≤k→oI next b L k L
 | step {L k s L'}:L[k]? = some s→oI next b (notes L (outs next b s)) (k + 1) L'→oI next b L k L'
theorem oI.uniq {next:S→Nat→S}{b:Nat}{L:List S}{k:Nat}{A B:List S}(h:oI next b L k A)(h':oI next b L k B):A = B:=by
 induction h with
 | done hl =>
  cases h' with
  | done _=>rfl
  | step hs _=>rw [List.getElem?_eq_none hl] at hs; cases hs
 | step hs _ ih =>
  cases h' with
  | done hl=>rw [List.getElem?_eq_none hl] at hs; cases hs
  | step hs' k =>
   rw [hs] at hs';cases hs'
   exact ih k
structure wR (next:S→Nat→S) (b:Nat) (U:List S):Prop where
 cl:∀ s ∈ U,∀ d,d < b→next s d ∈ U
theorem CY {next:S→Nat→S}{b:Nat}{s x:S}:x ∈ outs next b s↔∃ d,d < b∧next s d = x:=by
 unfold outs;rw [List.mem_map];constructor
 ·rintro ⟨d,h,e⟩; exact ⟨d,List.mem_range.1 h,e⟩
 ·rintro ⟨d,h,e⟩; exact ⟨d,List.mem_range.2 h,e⟩
theorem oI.exists {next:S→Nat→S}{b:Nat}{U:List S}(hU:wR next b U):∀ (f:Nat) (L:List S) (k:Nat),L.Nodup→(∀ s ∈ L,s ∈ U)→U.length≤f + k→∃ L',oI next b L k L'
 | 0,L,k,hn,hs,hf=>⟨L,.done (Nat.le_trans (j4 hn hs) (by omega))⟩
 | f + 1,L,k,hn,hs,hf=>by
  by_cases h:L.length≤k
  ·exact ⟨L,.done h⟩
  ·have hk:k < L.length:=by omega
   have hm:∀ s ∈ notes L (outs next b L[k]),s ∈ U:=fun s h=>by
    rcases j3 h with h | h
    ·exact hs s h
    ·obtain ⟨d,hd,rfl⟩:=CY.1 h;exact hU.cl _ (hs _ (List.getElem_mem hk)) d hd
   obtain ⟨L',h'⟩:=oI.exists hU f (notes L (outs next b L[k])) (k + 1) (jc hn) hm (by omega);exact ⟨L',.step (List.getElem?_eq_getElem hk) h'⟩
structure Met (next:S→Nat→S) (b:Nat) (L:List S) (k:Nat):Prop where
 nodup:L.Nodup
 cl:∀ (i:Nat) (s:S),i < k→L[i]? = some s→∀ d,d < b→next s d ∈ L
theorem Met.step {next:S→Nat→S}{b:Nat}{L:List S}{k:Nat}{s:S}(m:Met next b L k)(hs:L[k]? = some s):Met next b (notes L (outs next b s)) (k + 1):=by
 refine ⟨jc m.nodup,fun i x hi hx d hd=>?_⟩;obtain ⟨r,e⟩:=gJ (outs next b s) L;have hk:=(List.getElem?_eq_some_iff.1 hs).1;rw [e,List.getElem?_append_left (by omega)] at hx;by_cases h:i < k
 ·exact Kc (m.cl i x h hx d hd)
 ·have:i = k:=by omega
  subst this;rw [hs] at hx;cases hx
  exact fZ (CY.2 ⟨d,hd,rfl⟩)
theorem oI.met {next:S→Nat→S}{b:Nat}{L:List S}{k:Nat}{A:List S}(h:oI next b L k A):Met next b L k→(∃ r,A = L ++ r)∧A.Nodup∧∀ s ∈ A,∀ d,d < b→next s d ∈ A:=by
 induction h with
 | @done L k hl =>
  intro m;refine ⟨⟨[],by simp⟩,m.nodup,fun s hs d hd=>?_⟩;obtain ⟨i,hi⟩:=List.getElem?_of_mem hs;exact m.cl i s (by have:=(List.getElem?_eq_some_iff.1 hi).1; omega) hi d hd
 | @step L k s L' hs _ ih =>
  intro m;obtain ⟨⟨r,e⟩,h2,h3⟩:=ih (m.step hs);obtain ⟨r',e'⟩:=gJ (outs next b s) L;exact ⟨⟨r' ++ r,by rw [e,e',List.append_assoc]⟩,h2,h3⟩
def wS (next:S→Nat→S):S→List Nat→S
 | s,[]=>s
 | s,d :: w=>wS next (next s d) w
theorem Ik (next:S→Nat→S):∀ (w v:List Nat) (s:S),wS next s (w ++ v) = wS next (wS next s w) v
 | [],v,s=>rfl
 | d :: w,v,s=>Ik next w v (next s d)
theorem oI.all {next:S→Nat→S}{b:Nat}{P:S→Prop}(hP:∀ s,P s→∀ d,d < b→P (next s d)){L:List S}{k:Nat}{A:List S}(h:oI next b L k A):(∀ s ∈ L,P s)→∀ s ∈ A,P s:=by
 induction h with
 | done _=>exact id
 | @step L k s L' hs _ ih =>
  refine fun hL=>ih fun x hx=>?_;rcases j3 hx with h | h
  ·exact hL x h
  ·obtain ⟨d,hd,rfl⟩:=CY.1 h;exact hP _ (hL s (List.mem_of_getElem? hs)) d hd
noncomputable def bfs (next:S→Nat→S) (b:Nat) (s:S):List S:=open Classical in if h:∃ L,oI next b [s] 0 L then h.choose else []
theorem Ei {next:S→Nat→S}{b:Nat}{s:S}{L:List S}(h:oI next b [s] 0 L):bfs next b s = L:=by
 unfold bfs;have hx:∃ L,oI next b [s] 0 L:=⟨L,h⟩;rw [dif_pos hx];exact hx.choose_spec.uniq h
theorem Ej {next:S→Nat→S}{b:Nat}{s:S}{U:List S}(hU:wR next b U)(hs:s ∈ U):oI next b [s] 0 (bfs next b s):=by
 obtain ⟨L,h⟩:=oI.exists hU U.length [s] 0 (by simp) (fun x hx=>by rw [List.mem_singleton.1 hx]; exact hs) (by omega);rw [Ei h];exact h
theorem Met.one {next:S→Nat→S}{b:Nat}{s:S}:Met next b [s] 0:=⟨by simp,fun i x hi=>absurd hi (Nat.not_lt_zero _)⟩
structure Whole (next:S→Nat→S) (b:Nat) (s:S) (L:List S):Prop where
 first:L[0]? = some s
 nodup:L.Nodup
 cl:∀ s ∈ L,∀ d,d < b→next s d ∈ L
 way:∀ x ∈ L,∃ w,Mac.Wd b w∧wS next s w = x
theorem oI.whole {next:S→Nat→S}{b:Nat}{s:S}{L:List S}(h:oI next b [s] 0 L):Whole next b s L:=by
 obtain ⟨⟨r,e⟩,h2,h3⟩:=h.met Met.one;refine ⟨by rw [e]; rfl,h2,h3,h.all (P:=fun x=>∃ w,Mac.Wd b w∧wS next s w = x) (fun x hx d hd=>?_) (fun x hx=>?_)⟩
 ·obtain ⟨w,hw,rfl⟩:=hx;refine ⟨w ++ [d],fun y hy=>?_,Ik next w [d] s⟩;rcases List.mem_append.1 hy with hy | hy
  ·exact hw y hy
  ·rw [List.mem_singleton.1 hy]; exact hd
 ·rw [List.mem_singleton.1 hx];exact ⟨[],by simp [Mac.Wd],rfl⟩
structure Sim (R:S→S'→Prop) (next:S→Nat→S) (next':S'→Nat→S') (b:Nat):Prop where
 go:∀ x y,R x y→∀ d,d < b→R (next x d) (next' y d)
 one:∀ x y x' y',R x y→R x' y'→(x = x'↔y = y')
theorem oI.sim {R:S→S'→Prop}{next:S→Nat→S}{next':S'→Nat→S'}{b:Nat}(hR:Sim R next next' b){L:List S}{k:Nat}{A:List S}(h:oI next b L k A):∀ Z:List (S×S'),L = Z.map (·.1)→(∀ z ∈ Z,R z.1 z.2)→∃ W:List (S×S'),A = W.map (·.1)∧oI next' b (Z.map (·.2)) k (W.map (·.2))∧∀ z ∈ W,R z.1 z.2:=by
 induction h with
 | @done L k hl =>
  intro Z e hZ;refine ⟨Z,e,.done ?_,hZ⟩;rw [List.length_map];rw [e,List.length_map] at hl;exact hl
 | @step L k s L' hs _ ih =>
  intro Z e hZ;subst e;rw [List.getElem?_map,Option.map_eq_some_iff] at hs;obtain ⟨z,hz,rfl⟩:=hs;have hzR:=hZ z (List.mem_of_getElem? hz);obtain ⟨W,h1,h2,h3⟩:=tu (zs:=(List.range b).map fun d=>(next z.1 d,next' z.2 d)) (Z:=Z) (by
   have q:∀ x ∈ Z ++ ((List.range b).map fun d=>(next z.1 d,next' z.2 d)),R x.1 x.2:=fun x hx=>by
    rcases List.mem_append.1 hx with hx | hx
    ·exact hZ x hx
    ·obtain ⟨d,hd,rfl⟩:=List.mem_map.1 hx;exact hR.go _ _ hzR d (List.mem_range.1 hd)
   exact fun x hx y hy=>hR.one _ _ _ _ (q x hx) (q y hy))
  rw [List.map_map] at h2 h3;obtain ⟨V,v1,v2,v3⟩:=ih W h2 (fun x hx=>by
   rcases List.mem_append.1 (h1 x hx) with hx | hx
   ·exact hZ x hx
   ·obtain ⟨d,hd,rfl⟩:=List.mem_map.1 hx;exact hR.go _ _ hzR d (List.mem_range.1 hd))
  refine ⟨V,v1,.step (s:=z.2) (by rw [List.getElem?_map,hz]; rfl) ?_,v3⟩;unfold outs;rw [show (List.map (next' z.2) (List.range b)) = List.map ((fun x:S×S'=>x.2) ∘ fun d=>(next z.1 d,next' z.2 d)) (List.range b) from rfl,h3];exact v2
def yS (b:Nat)(L:List S)(out:S→Int)(next:S→Nat→S):Mac:=⟨b,L.map out,L.map fun s=>(List.range b).map fun d=>L.idxOf (next s d)⟩
noncomputable def built (b:Nat) (s:S) (out:S→Int) (next:S→Nat→S):Mac:=yS b (bfs next b s) out next
theorem Il (b:Nat)(L:List S)(out:S→Int)(next:S→Nat→S):(yS b L out next).out.length = L.length:=by unfold yS; rw [List.length_map]
theorem Q0 {b:Nat}{L:List S}{out:S→Int}{next:S→Nat→S}{i:Nat}{s:S}(h:L[i]? = some s):(yS b L out next).o i = out s:=by
 unfold Mac.o yS;rw [List.getD_eq_getElem?_getD,List.getElem?_map,h]; rfl
theorem Mi {b:Nat}{L:List S}{out:S→Int}{next:S→Nat→S}{i d:Nat}{s:S}(h:L[i]? = some s)(hd:d < b):(yS b L out next).nx i d = L.idxOf (next s d):=by
 unfold Mac.nx yS;dsimp only;have e:(List.map (fun s=>List.map (fun d=>List.idxOf (next s d) L) (List.range b)) L).getD i [] = List.map (fun d=>List.idxOf (next s d) L) (List.range b):=by
  rw [List.getD_eq_getElem?_getD,List.getElem?_map,h]; rfl
 rw [e,List.getD_eq_getElem?_getD,List.getElem?_map,List.getElem?_range hd]; rfl
theorem Whole.pos {next:S→Nat→S}{b:Nat}{s:S}{L:List S}(h:Whole next b s L):1≤L.length:=by
 have:=(List.getElem?_eq_some_iff.1 h.first).1; omega
theorem Whole.ok {next:S→Nat→S}{b:Nat}{s:S}{L:List S}(h:Whole next b s L)(out:S→Int)(hb:1≤b):(yS b L out next).Ok where
 b1:=hb
 n1:=by rw [Il]; exact h.pos
 len:=by unfold yS; rw [List.length_map,List.length_map]
 row:=fun i hi=>by
  rw [Il] at hi;unfold yS;dsimp only;rw [List.getD_eq_getElem?_getD,List.getElem?_map,List.getElem?_eq_getElem hi];simp
 lt:=fun i d hi hd=>by
  rw [Il] at hi ⊢;rw [Mi (out:=out) (List.getElem?_eq_getElem hi) (show d < b from hd)];exact List.idxOf_lt_length_of_mem (h.cl _ (List.getElem_mem hi) d hd)
theorem Whole.run {next:S→Nat→S}{b:Nat}{s0:S}{L:List S}(h:Whole next b s0 L)(out:S→Int):∀ {w:List Nat} {i:Nat} {s:S},L[i]? = some s→Mac.Wd b w→L[(yS b L out next).run i w]? = some (wS next s w)
 | [],i,s,hi,_=>hi
 | d :: w,i,s,hi,hw=>by
  have hd:=hw d (by simp);refine h.run out (w:=w) (s:=next s d) ?_ fun x hx=>hw x (by simp [hx]);rw [Mi hi hd];exact vk (h.cl s (List.mem_of_getElem? hi) d hd)
theorem Whole.says {next:S→Nat→S}{b:Nat}{s0:S}{L:List S}(h:Whole next b s0 L){out:S→Int}{w:List Nat}{i:Nat}{s:S}(hi:L[i]? = some s)(hw:Mac.Wd b w):(yS b L out next).o ((yS b L out next).run i w) = out (wS next s w):=Q0 (h.run out hi hw)
theorem U8 {R:S→S'→Prop}{next:S→Nat→S}{next':S'→Nat→S'}{b:Nat}(hR:Sim R next next' b){out:S→Int}{out':S'→Int}(ho:∀ x y,R x y→out x = out' y){s:S}{s':S'}(h0:R s s'){L:List S}(h:oI next b [s] 0 L):built b s out next = built b s' out' next'∧∃ L',oI next' b [s'] 0 L':=by
 obtain ⟨W,h1,h2,h3⟩:=h.sim hR [(s,s')] rfl (fun z hz=>by rw [List.mem_singleton.1 hz]; exact h0);refine ⟨?_,_,h2⟩;unfold built;rw [Ei h,Ei h2,h1];unfold yS;have q:∀ z ∈ W,∀ d,d < b→(W.map (·.1)).idxOf (next z.1 d) = (W.map (·.2)).idxOf (next' z.2 d):=fun z hz d hd=>by
  refine yR (Z:=W) (z:=(next z.1 d,next' z.2 d)) ?_;have q2:∀ x ∈ (next z.1 d,next' z.2 d) :: W,R x.1 x.2:=fun x hx=>by
   rcases List.mem_cons.1 hx with rfl | hx
   ·exact hR.go _ _ (h3 z hz) d hd
   ·exact h3 x hx
  exact fun x hx y hy=>hR.one _ _ _ _ (q2 x hx) (q2 y hy)
 congr 1
 ·rw [List.map_map,List.map_map];exact List.map_congr_left fun z hz=>ho _ _ (h3 z hz)
 ·rw [List.map_map,List.map_map];exact List.map_congr_left fun z hz=>List.map_congr_left fun d hd=>q z hz d (List.mem_range.1 hd)
end
/-! The form. -/
namespace Mac
def rep (m:Mac)(c:Int):Nat:=m.cls.idxOf c
def OT (m:Mac)(c:Int):Int:=m.o (m.rep c)
def rJ (m:Mac)(c:Int)(d:Nat):Int:=m.cls.getD (m.nx (m.rep c) d) 0
def cl (m:Mac)(s:Nat):Int:=m.cls.getD s 0
noncomputable def form (m:Mac):Mac:=built m.base (m.cl 0) m.OT m.rJ
variable {m:Mac}
theorem qj (hm:m.Ok){s:Nat}(hs:s < m.out.length):m.cls[s]? = some (m.cl s):=by
 have:=nO hm;unfold cl;rw [List.getD_eq_getElem?_getD,List.getElem?_eq_getElem (by omega)]; rfl
theorem XU (hm:m.Ok){s:Nat}(hs:s < m.out.length):m.rep (m.cl s) < m.out.length∧m.cl (m.rep (m.cl s)) = m.cl s:=by
 have hmem:=List.mem_of_getElem? (qj hm hs);have h1:=List.idxOf_lt_length_of_mem hmem;rw [nO hm] at h1;refine ⟨h1,?_⟩;have h2:=vk hmem;have h3:=qj hm (s:=m.rep (m.cl s)) h1;unfold rep at h3 ⊢;rw [h2] at h3;exact (Option.some.inj h3).symm
theorem Im (hm:m.Ok){s t:Nat}(hs:s < m.out.length)(ht:t < m.out.length):m.cl s = m.cl t↔Alike m m s t:=Te hm hs ht
theorem vB (hm:m.Ok){s d:Nat}(hs:s < m.out.length)(hd:d < m.base):m.rJ (m.cl s) d = m.cl (m.nx s d):=by
 obtain ⟨h1,h2⟩:=XU hm hs;exact (Im hm (hm.lt _ d h1 hd) (hm.lt s d hs hd)).2 (((Im hm h1 hs).1 h2).step hd)
theorem zZ (hm:m.Ok){s:Nat}(hs:s < m.out.length):m.OT (m.cl s) = m.o s:=by
 obtain ⟨h1,h2⟩:=XU hm hs;exact (Im hm h1 hs).1 h2 [] (by simp [Wd])
theorem rM (hm:m.Ok):wR m.rJ m.base m.cls:=⟨fun c hc d hd=>by
 obtain ⟨s,hs⟩:=List.getElem?_of_mem hc;have hl:=(List.getElem?_eq_some_iff.1 hs).1;rw [nO hm] at hl;have:=qj hm hl;rw [hs] at this;cases this
 rw [vB hm hl hd];exact List.mem_of_getElem? (qj hm (hm.lt s d hl hd))⟩
theorem OU (hm:m.Ok):oI m.rJ m.base [m.cl 0] 0 (bfs m.rJ m.base (m.cl 0)):=Ej (rM hm) (List.mem_of_getElem? (qj hm hm.n1))
theorem Q5 (hm:m.Ok):Whole m.rJ m.base (m.cl 0) (bfs m.rJ m.base (m.cl 0)):=(OU hm).whole
theorem Zn (hm:m.Ok):m.form.Ok:=(Q5 hm).ok _ hm.b1
theorem Kg {m':Mac}(hm:m.Ok)(hm':m'.Ok)(hb:m.base = m'.base)(h:Alike m m' 0 0):m.form = m'.form:=by
 have hs:Sim (fun c c'=>∃ s t,s < m.out.length∧t < m'.out.length∧m.cl s = c∧m'.cl t = c'∧Alike m m' s t) m.rJ m'.rJ m.base:=by
  refine ⟨?_,?_⟩
  ·rintro _ _ ⟨s,t,hs,ht,rfl,rfl,k⟩ d hd;exact ⟨_,_,hm.lt s d hs hd,hm'.lt t d ht (hb ▸ hd),(vB hm hs hd).symm,(vB hm' ht (hb ▸ hd)).symm,k.step hd⟩
  ·rintro _ _ _ _ ⟨s,t,hs,ht,rfl,rfl,k⟩ ⟨s',t',hs',ht',rfl,rfl,k'⟩;rw [Im hm hs hs',Im hm' ht ht'];constructor
   ·exact fun q=>((k.symm hb).trans hb.symm q).trans hb.symm k'
   ·exact fun q=>(k.trans hb q).trans hb (k'.symm hb)
 have:=(U8 hs (out:=m.OT) (out':=m'.OT) (fun x y=>by
  rintro ⟨s,t,hs,ht,rfl,rfl,k⟩;rw [zZ hm hs,zZ hm' ht];exact k [] (by simp [Wd])) ⟨0,0,hm.n1,hm'.n1,rfl,rfl,h⟩ (OU hm)).1
 unfold form;rw [← hb];exact this
end Mac
/-! Numbers as words. -/
def dgF (b:Nat):Nat→Nat→List Nat
 | 0,_=>[]
 | f + 1,n=>if n = 0 then [] else (n % b) :: dgF b f (n / b)
theorem OV {b:Nat}(hb:2≤b):∀ (f g n:Nat),n≤f→n≤g→dgF b f n = dgF b g n
 | 0,0,n,_,_=>rfl
 | 0, g + 1, n, h, _ => by have : n = 0 := by omega
                           subst this; rfl
 | f + 1, 0, n, _, h => by have : n = 0 := by omega
                           subst this; rfl
 | f + 1,g + 1,n,h1,h2=>by
  unfold dgF;by_cases h:n = 0
  ·rw [if_pos h,if_pos h]
  ·rw [if_neg h,if_neg h];have:n / b < n:=Nat.div_lt_self (by omega) hb;rw [OV hb f g (n / b) (by omega) (by omega)]
def dg (b n:Nat):List Nat:=dgF b n n
theorem Tf (b:Nat):dg b 0 = []:=rfl
theorem Io {b n:Nat}(hb:2≤b)(h:n≠0):dg b n = (n % b) :: dg b (n / b):=by
 unfold dg
 cases n with
 | zero=>exact absurd rfl h
 | succ n =>
  have:(n + 1) / b < n + 1:=Nat.div_lt_self (by omega) hb;show (if n + 1 = 0 then [] else _) = _;rw [if_neg h,OV hb n ((n + 1) / b) _ (by omega) (Nat.le_refl _)]
def val (b:Nat):List Nat→Nat
 | []=>0
 | d :: w=>d + b * val b w
theorem CZ {b:Nat}(hb:2≤b)(n:Nat):Mac.Wd b (dg b n):=by
 induction n using Nat.strongRecOn with
 | ind n ih =>
  by_cases h:n = 0
  ·subst h; simp [Tf,Mac.Wd]
  ·rw [Io hb h];exact Mac.Wd.cons (Nat.mod_lt _ (by omega)) (ih _ (Nat.div_lt_self (by omega) hb))
theorem XV {b:Nat}(hb:2≤b)(n:Nat):val b (dg b n) = n:=by
 induction n using Nat.strongRecOn with
 | ind n ih =>
  by_cases h:n = 0
  ·subst h; rfl
  ·rw [Io hb h];show n % b + b * val b (dg b (n / b)) = n;rw [ih _ (Nat.div_lt_self (by omega) hb)];exact Nat.mod_add_div n b
theorem Mj {b:Nat}(hb:1≤b):∀ {w:List Nat},Mac.Wd b w→val b w < b ^ w.length
 | [],_=>by simp [val]
 | d :: w,h=>by
  have h1:=Mj hb (w:=w) fun x hx=>h x (by simp [hx]);have h2:=h d (by simp);show d + b * val b w < b ^ (w.length + 1);have h3:b * (val b w + 1)≤b * b ^ w.length:=Nat.mul_le_mul_left b h1;rw [Nat.mul_add,Nat.mul_one] at h3;rw [Nat.pow_succ,Nat.mul_comm _ b];omega
namespace Mac
def at_ (m:Mac)(s n:Nat):Int:=m.o (m.run s (dg m.base n))
def Zer (m:Mac):Prop:=∀ s,s < m.out.length→m.o (m.nx s 0) = m.o s
theorem El {m:Mac}(hm:m.Ok)(hb:2≤m.base)(hz:m.Zer):∀ {w:List Nat} {s:Nat},s < m.out.length→Wd m.base w→m.o (m.run s w) = m.at_ s (val m.base w)
 | [],s,hs,_=>rfl
 | d :: w,s,hs,hw=>by
  have hd:=hw d (by simp);have ih:=El hm hb hz (w:=w) (s:=m.nx s d) (hm.lt s d hs hd) fun x hx=>hw x (by simp [hx]);show m.o (m.run (m.nx s d) w) = m.at_ s (d + m.base * val m.base w);rw [ih];by_cases h:d + m.base * val m.base w = 0
  ·have h0:d = 0:=by omega
   have h1:val m.base w = 0:=by
    rcases Nat.eq_zero_or_pos (val m.base w) with e | e
    ·exact e
    ·have:=Nat.mul_le_mul hb e; omega
   rw [h,h1,h0];exact hz s hs
  ·unfold at_
   rw [Io hb h,Nat.add_mul_mod_self_left,Nat.mod_eq_of_lt hd,Nat.add_mul_div_left _ _ (by omega),Nat.div_eq_of_lt hd,Nat.zero_add];rfl
theorem OW {m m':Mac}(hm:m.Ok)(hm':m'.Ok)(hb2:2≤m.base)(hb:m.base = m'.base)(hz:m.Zer)(hz':m'.Zer){s t:Nat}(hs:s < m.out.length)(ht:t < m'.out.length):Alike m m' s t↔∀ n,m.at_ s n = m'.at_ t n:=by
 constructor
 ·intro h n;have:=h (dg m.base n) (CZ hb2 n);unfold at_
  rw [← hb];exact this
 ·intro h w hw;rw [El hm hb2 hz hs hw,El hm' (hb ▸ hb2) hz' ht (hb ▸ hw),← hb];exact h _
theorem Tg {m:Mac}(hm:m.Ok)(hb:2≤m.base)(hz:m.Zer){s d n:Nat}(hs:s < m.out.length)(hd:d < m.base):m.at_ s (d + m.base * n) = m.at_ (m.nx s d) n:=by
 have h1:=El hm hb hz (w:=d :: dg m.base n) hs (Wd.cons hd (CZ hb n));show m.at_ s (d + m.base * n) = m.o (m.run (m.nx s d) (dg m.base n));rw [show m.o (m.run (m.nx s d) (dg m.base n)) = m.o (m.run s (d :: dg m.base n)) from rfl,h1];show _ = m.at_ s (d + m.base * val m.base (dg m.base n));rw [XV hb]
end Mac
end Go.Proofs.Ytedneplaibmppaa
namespace Go.Proofs.Ytedneplaibmppaa
open Go.Rx Go.RowKit
abbrev aN:Value:=.slice none 0 0
abbrev pl (d:Nat):Value:=slc d 0 0 0
theorem oJ {p:Prop}(h:p):bO true p:=⟨fun _=>h,fun _=>rfl⟩
theorem nX {p:Prop}(h:¬ p):bO false p:=⟨fun e=>(by cases e),fun hp=>absurd hp h⟩
theorem eB {h:Hp}{r r':Nat}{o:Rx.Obj}(e:r = r')(k:h.at r = some o):h.at r' = some o:=e ▸ k
theorem aI {H:Hp}{r e m:Nat}{x:Bool}{cs:List Value}(hr:H.at r = some (.row e x cs))(hl:cs.length = m):bJ H r 0 m = some cs:=by
 rw [iq hr (by omega),List.drop_zero,List.take_of_length_le (by omega)]
theorem OX {h:Hp}{r k o:Nat}{v:Value}(e:cellAt h r (k + o) = some v):cellAt h r (gU o k 1) = some v:=by
 rw [ig,Nat.mul_one,Nat.add_comm]; exact e
theorem jX {h:Hp}{r k e:Nat}{x:Bool}{cs:List Value}{v:Value}(hr:h.at r = some (.row e x cs))(hv:cs[k]? = some v):cellAt h r (gU 0 k 1) = some v:=by
 rw [ig,Nat.mul_one,Nat.zero_add]; exact bA hr hv
theorem jd {H:Hp}{r e:Nat}{x:Bool}{cs:List Value}{v:Value}{i:Nat}(hr:H.at r = some (.row e x cs))(hi:i < cs.length)(h1:oneCell v = true):storeAt H r (gU 0 i 1) [v] = some (H.set r (.row e x (cs.set i v))):=by
 rw [ig,Nat.zero_add,Nat.mul_one];exact dQ hr hi h1
theorem XW {a:Option Nat}{h h':Hp}{r:Nat}{o:Rx.Obj}{v:Value}(x:Kx (ad v) h h')(e:h.at r = some o)(k:Ap v (slc r 0 0 0)):h'.at r = some o:=x.at_ e fun e2=>k r e2 rfl
theorem Zo (x y:Int):Value.int IntKind.i64 (if y < x then y else x) = int (min x y):=congrArg (Value.int .i64) (by split <;> omega)
theorem FQ (x y:Int):Value.int IntKind.i64 (if y > x then y else x) = int (max x y):=congrArg (Value.int .i64) (by split <;> omega)
theorem rF (l:List Int):(l.map int).all oneCell = true:=by
 induction l with
 | nil=>rfl
 | cons x l ih=>simp only [List.map_cons,List.all_cons,ih,Bool.and_true]; rfl
structure jh where
 base:Int
 out:List Int
 next:List (List Int)
def Mac.i (m:Mac):jh:=⟨m.base,m.out,m.next.map fun l=>l.map fun n:Nat=>(n:Int)⟩
def MV (h:Hp)(v:Value)(M:jh):Prop:=∃ vo vn,v = .agg ⟨[int M.base,vo,vn]⟩∧View h vo M.out∧Mat h vn M.next
theorem MV.ext {h h':Hp}{v:Value}{M:jh}(g:aA h h')(k:MV h v M):MV h' v M:=by
 obtain ⟨a,b,e,h1,h2⟩:=k;exact ⟨a,b,e,h1.ext g,h2.ext g⟩
structure Bx (h:Hp) (bx:List Value) (M:jh):Prop where
 len:bx.length = 3
 b:bx[0]? = some (int M.base)
 o:∃ a c,bx[1]? = some (.slice a M.out.length c)∧View h (.slice a M.out.length c) M.out
 n:∃ a c,bx[2]? = some (.slice a M.next.length c)∧Mat h (.slice a M.next.length c) M.next
theorem Bx.ext {h h':Hp}{bx:List Value}{M:jh}(g:aA h h')(k:Bx h bx M):Bx h' bx M :=
 ⟨k.len,k.b,let ⟨a,c,e,q⟩:=k.o; ⟨a,c,e,q.ext g⟩,let ⟨a,c,e,q⟩:=k.n; ⟨a,c,e,q.ext g⟩⟩
theorem MV.box {h:Hp}{v:Value}{M:jh}(k:MV h v M):∃ bx,v = .agg ⟨bx⟩∧Bx h bx M:=by
 obtain ⟨a,b,rfl,h1,h2⟩:=k;obtain ⟨x,y,rfl⟩:=h1.known;obtain ⟨z,w,rfl,-⟩:=id h2;exact ⟨_,rfl,rfl,rfl,⟨_,_,rfl,h1⟩,⟨_,_,rfl,h2⟩⟩
theorem Bx.mv {h:Hp}{bx:List Value}{M:jh}(k:Bx h bx M):MV h (.agg ⟨bx⟩) M:=by
 obtain ⟨hl,hb,⟨a,c,ho,h1⟩,⟨a',c',hn,h2⟩⟩:=k
 match bx,hl with
 | [x,y,z],_=>cases hb; cases ho; cases hn; exact ⟨_,_,rfl,h1,h2⟩
theorem View.cell {h:Hp}{a:Option Addr}{n c:Nat}{l:List Int}(k:View h (.slice a n c) l){i:Nat}(hi:i < l.length):∃ r o sp,a = some ⟨r,o,sp⟩∧fA sp = false∧n = l.length∧cellAt h r (gU o i 1) = some (int l[i]):=by
 obtain ⟨a',c',e,hc⟩:=k.ints;cases e
 obtain ⟨r,o,sp,e1,e2,e3⟩:=hc i hi;exact ⟨r,o,sp,e1,e2,rfl,OX e3⟩
theorem Mat.cell {h:Hp}{a:Option Addr}{n c:Nat}{L:List (List Int)}(k:Mat h (.slice a n c) L){i:Nat}(hi:i < L.length):∃ r o sp a' c',a = some ⟨r,o,sp⟩∧fA sp = false∧n = L.length∧cellAt h r (gU o i 1) = some (.slice a' L[i].length c')∧View h (.slice a' L[i].length c') L[i]:=by
 obtain ⟨a',c',e,hc⟩:=k;cases e
 obtain ⟨r,o,sp,u,e1,e2,e3,e4⟩:=hc i hi;obtain ⟨x,y,rfl⟩:=e4.known;exact ⟨r,o,sp,x,y,e1,e2,rfl,OX e3,e4⟩
theorem C8:∃ i,E.ty 25 = some i∧i.agg = true∧i.size = 3:=by
 have hs:(jL Try.prog 25).isSome = true:=by kernel_rfl
 refine ⟨(jL Try.prog 25).get hs,mP (by kernel_rfl) (Option.some_get hs).symm,?_,?_⟩ <;> kernel_rfl
theorem U9:∃ i,E.ty 26 = some i∧i.agg = true∧i.size = 3:=by
 have hs:(jL Try.prog 26).isSome = true:=by kernel_rfl
 refine ⟨(jL Try.prog 26).get hs,mP (by kernel_rfl) (Option.some_get hs).symm,?_,?_⟩ <;> kernel_rfl
/-! Machines that are made. -/
def jY (h0 h:Hp)(v:Value)(M:jh):Prop:=∃ vo vn us,v = .agg ⟨[int M.base,vo,vn]⟩∧bD h0 h 3 1 vo M.out.length (M.out.map int)∧bD h0 h 22 1 vn us.length us∧us.length = M.next.length∧(∀ (k:Nat) u l,us[k]? = some u→M.next[k]? = some l→Built h0 h 3 u l)
theorem jY.mv {h0 h:Hp}{v:Value}{M:jh}(k:jY h0 h v M):MV h v M:=by
 obtain ⟨vo,vn,us,rfl,h1,h2,h3,h4⟩:=k;refine ⟨vo,vn,rfl,h1.view,?_⟩;obtain ⟨hl,hb⟩:=h2;rcases hb with ⟨rfl,h0⟩ | ⟨r,rfl,_,x,hr⟩
 ·have:M.next = []:=List.eq_nil_of_length_eq_zero (by omega);rw [this];exact Mat.nil h
 ·refine ⟨some ⟨r,0,none⟩,us.length,by rw [h3]; rfl,fun k hk=>?_⟩;have hk':k < us.length:=by omega
  exact ⟨r,0,none,us[k],rfl,rfl,bA hr (List.getElem?_eq_getElem hk'),(h4 k _ _ (List.getElem?_eq_getElem hk') (List.getElem?_eq_getElem hk)).view⟩
theorem jY.ext {h0 h h':Hp}{v:Value}{M:jh}(g:aA h h')(k:jY h0 h v M):jY h0 h' v M:=by
 obtain ⟨vo,vn,us,e,h1,h2,h3,h4⟩:=k;exact ⟨vo,vn,us,e,h1.ext g,h2.ext g,h3,fun j u l a b=>(h4 j u l a b).ext g⟩
theorem jY.back {h1 h0 h:Hp}{v:Value}{M:jh}(g:h1.next≤h0.next)(k:jY h0 h v M):jY h1 h v M:=by
 obtain ⟨vo,vn,us,e,a1,a2,a3,a4⟩:=k;exact ⟨vo,vn,us,e,a1.back g,a2.back g,a3,fun j u l a b=>(a4 j u l a b).back g⟩
def KV (vs:List Value)(H H':Hp):Prop:=∀ v ∈ vs,∀ d,ad v = some d→∀ o,H.at d = some o→H'.at d = some o
theorem KV.grows {vs:List Value}{H H':Hp}(g:aA H H'):KV vs H H':=fun _ _ d _ o e=>g.at_ d o e
theorem KV.trans {vs:List Value}{H H1 H2:Hp}(k:KV vs H H1)(k2:KV vs H1 H2):KV vs H H2:=fun v hv d hd o e=>k2 v hv d hd o (k v hv d hd o e)
theorem KV.mono {vs ws:List Value}{H H':Hp}(k:KV vs H H')(s:∀ v ∈ ws,v ∈ vs):KV ws H H':=fun v hv=>k v (s v hv)
theorem KV.at_ {vs:List Value}{H H':Hp}(k:KV vs H H'){v:Value}(hv:v ∈ vs){d:Nat}{o:Rx.Obj}(hd:ad v = some d)(e:H.at d = some o):H'.at d = some o:=k v hv d hd o e
theorem p8 {h0 h h':Hp}{e:TypeId}{s n:Nat}{v:Value}{cs:List Value}(k:bD h0 h e s v n cs)(g:∀ r o,ad v = some r→h.at r = some o→h'.at r = some o):bD h0 h' e s v n cs:=by
 obtain ⟨hl,h1 | ⟨r,rfl,h2,y,hr⟩⟩:=k
 ·exact ⟨hl,.inl h1⟩
 ·exact ⟨hl,.inr ⟨r,rfl,h2,y,g _ _ rfl hr⟩⟩
theorem oK {h0 h h':Hp}{e:TypeId}{v:Value}{l:List Int}(k:Built h0 h e v l)(g:∀ r o,ad v = some r→h.at r = some o→h'.at r = some o):Built h0 h' e v l:=by
 rcases k with h1 | ⟨r,rfl,h2,y,hr⟩
 ·exact .inl h1
 ·exact .inr ⟨r,rfl,h2,y,g _ _ rfl hr⟩
theorem KV.dA {vs:List Value}{H H' h0:Hp}(k:KV vs H H'){e:TypeId}{s n:Nat}{v:Value}{cs:List Value}(hv:v ∈ vs)(b:bD h0 H e s v n cs):bD h0 H' e s v n cs:=p8 b fun r o hr ho=>k v hv r hr o ho
theorem KV.built {vs:List Value}{H H' h0:Hp}(k:KV vs H H'){e:TypeId}{v:Value}{l:List Int}(hv:v ∈ vs)(b:Built h0 H e v l):Built h0 H' e v l:=oK b fun r o hr ho=>k v hv r hr o ho
theorem KV.map {vs:List Value}{H H':Hp}(k:KV vs H H'){κ:Type}[DecidableEq κ]{enc:κ→Value}{M n:Nat}{f:κ→Option Value}(hv:pl M ∈ vs)(b:MapAt H M enc f n):MapAt H' M enc f n:=b.Tc fun o ho=>k _ hv M rfl o ho
theorem KV.kx {vs:List Value}{v:Value}{H H':Hp}(x:Kx (ad v) H H')(a:∀ u ∈ vs,Ap v u):KV vs H H':=fun u hu d hd o e=>x d o (fun e2=>a u hu d e2 hd) e
structure MZ (h H:Hp) (tz Z:Nat) (ov nv:Value) (O:List Int) (us:List Value) (N:List (List Int)) (cs:List Value) (rs:List Value):Prop where
 gr:aA h H
 z:H.at Z = some (.row tz true cs)
 o:bD h H 3 1 ov O.length (O.map int)
 n:bD h H 22 1 nv us.length us
 ul:us.length = N.length
 ue:∀ (k:Nat) u l,us[k]? = some u→N[k]? = some l→Built h H 3 u l
 hZ:h.next≤Z
 sep:Rx.Sep H (pl Z :: ov :: nv :: rs) us
section
variable {h H H':Hp} {tz Z:Nat} {ov nv:Value} {O:List Int} {us:List Value} {N:List (List Int)} {cs rs:List Value}
theorem MZ.ext (k:MZ h H tz Z ov nv O us N cs rs)(g:aA H H'):MZ h H' tz Z ov nv O us N cs rs :=
 ⟨k.gr.trans g,g.at_ _ _ k.z,k.o.ext g,k.n.ext g,k.ul,fun j u l a b=>(k.ue j u l a b).ext g,k.hZ,k.sep.ext g⟩
theorem MZ.own (k:MZ h H tz Z ov nv O us N cs rs){b:Int}:jY h H (.agg ⟨[int b,ov,nv]⟩) ⟨b,O,N⟩:=⟨ov,nv,us,rfl,k.o,k.n,k.ul,k.ue⟩
theorem MZ.mem (k:MZ h H tz Z ov nv O us N cs rs){j:Nat}{u:Value}(e:us[j]? = some u):u ∈ us:=List.mem_of_getElem? e
theorem MZ.jE (k:MZ h H tz Z ov nv O us N cs rs):∃ a,ov = .slice a O.length O.length:=let ⟨a,e,_⟩:=k.o.slice; ⟨a,e⟩
theorem MZ.jO (k:MZ h H tz Z ov nv O us N cs rs):∃ a,nv = .slice a N.length N.length:=let ⟨a,e,_⟩:=k.n.slice; ⟨a,by rw [e,k.ul]⟩
theorem MZ.put (k:MZ h H tz Z ov nv O us N cs rs)(cs':List Value):MZ h (H.set Z (.row tz true cs')) tz Z ov nv O us N cs' rs∧KV (rs ++ us) H (H.set Z (.row tz true cs')):=by
 have x:Kx (ad (pl Z)) H (H.set Z (.row tz true cs')):=Kx.set _ _ _;have a:=fun j v hj hv=>k.sep.ap 0 j (pl Z) v hj rfl hv;have ae:=fun u hu=>k.sep.ape (pl Z) (by simp) u hu;exact ⟨⟨k.gr.bQ _ k.hZ,Hp.bB _ (Hp.aU k.z),k.o.kx x (a 1 _ (by decide) rfl),k.n.kx x (a 2 _ (by decide) rfl),k.ul,fun j u l e1 e2=>(k.ue j u l e1 e2).kx x (ae u (List.mem_of_getElem? e1)),k.hZ,k.sep.next (Nat.le_refl _)⟩,KV.kx x fun u hu=>by
  rcases List.mem_append.1 hu with hu | hu
  ·obtain ⟨j,hj⟩:=List.getElem?_of_mem hu;exact a (j + 3) u (by omega) (by simpa using hj)
  ·exact ae u hu⟩
theorem MZ.EW {z:Int}{b:Bool}{K:Value→Hp→Prop}(k:MZ h H tz Z ov nv O us N cs rs)(hl:O.length≤1000000)
  (q:∀ ov' H',(∃ a n,ov' = .slice a n n)→MZ h H' tz Z ov' nv (O ++ [z]) us N cs rs→KV (rs ++ us) H H'→K ov' H'):fB E (H.lay (.row 3 b [int z])) 3 1 8 ov (slc H.next 0 1 1) K:=by
 have k1:=k.ext (aA.lay H (.row 3 b [int z]));refine fB.uf k1.o k1.gr (oH (u:=int z) rfl) (by omega) (by omega) (by omega) ?_;intro v' H' hb' hg' hkeep ⟨r',er,hr'⟩;have x:=Kx.dA k1.o hkeep;have hv:∀ r,ad v' = some r→(H.lay (.row 3 b [int z])).next≤r∧r < H'.next:=fun r e=>⟨by rw [er] at e; cases e; exact hr',(hb'.iU r e).2⟩;have hnx:(H.lay (.row 3 b [int z])).next≤H'.next:=by have:=hv r' (by rw [er]; rfl); omega
 have a:=fun j v hj hv=>k1.sep.ap 1 j ov v hj rfl hv;have ae:=fun u hu=>k1.sep.ape ov (by simp) u hu;refine q _ _ ⟨_,_,er⟩ ⟨hg',XW (a:=none) x k1.z (a 0 _ (by decide) rfl),by rw [List.length_append,List.map_append]; exact hb',k1.n.kx x (a 2 _ (by decide) rfl),k1.ul,fun j u l e1 e2=>(k1.ue j u l e1 e2).kx x (ae u (List.mem_of_getElem? e1)),k.hZ,k1.sep.move hnx 1 hv⟩ ((KV.grows (aA.lay _ _)).trans (KV.kx x fun u hu=>?_));rcases List.mem_append.1 hu with hu | hu
 ·obtain ⟨j,hj⟩:=List.getElem?_of_mem hu;exact a (j + 3) u (by omega) (by simpa using hj)
 ·exact ae u hu
theorem MZ.yT {u:Value}{l:List Int}{i:Nat}{b:Bool}{K:Value→Hp→Prop}(k:MZ h H tz Z ov nv O us N cs rs)(hl:N.length≤1000000)(hi:rs[i]? = some u)(hu:Built h H 3 u l)
  (q:∀ nv' H',(∃ a n,nv' = .slice a n n)→MZ h H' tz Z ov nv' O (us ++ [u]) (N ++ [l]) cs (rs.set i aN)→KV (rs ++ us) H H'→K nv' H'):fB E (H.lay (.row 22 b [u])) 22 1 24 nv (slc H.next 0 1 1) K:=by
 have k1:=k.ext (aA.lay H (.row 22 b [u]));have hul:=k.ul;have hu1:=hu.ext (aA.lay H (.row 22 b [u]));have ou:oneCell u = true:=hu.view.oneCell;refine fB.uf k1.n k1.gr (oH (u:=u) ou) (by omega) (by omega) (by omega) ?_;intro v' H' hb' hg' hkeep ⟨r',er,hr'⟩;have x:=Kx.dA k1.n hkeep;have hv:∀ r,ad v' = some r→(H.lay (.row 22 b [u])).next≤r∧r < H'.next:=fun r e=>⟨by rw [er] at e; cases e; exact hr',(hb'.iU r e).2⟩;have hnx:(H.lay (.row 22 b [u])).next≤H'.next:=by have:=hv r' (by rw [er]; rfl); omega
 have a:=fun j v hj hv=>k1.sep.ap 2 j nv v hj rfl hv;have ae:=fun w hw=>k1.sep.ape nv (by simp) w hw;have aru:Ap nv u:=a (i + 3) u (by omega) (by simpa using hi);have sep2:Rx.Sep H' (pl Z :: ov :: v' :: rs) us:=k1.sep.move hnx 2 hv;have Va:Rx.Sep H' (pl Z :: ov :: v' :: rs.set i aN) (us ++ [u]):=sep2.fix (i + 3) (v:=u) (by simpa using hi);refine q _ _ ⟨_,_,er⟩ ⟨hg',XW (a:=none) x k1.z (a 0 _ (by decide) rfl),k1.o.kx x (a 1 _ (by decide) rfl),by rw [List.length_append]; exact hb',by rw [List.length_append,List.length_append,hul]; rfl,fun j w m e1 e2=>?_,k.hZ,Va⟩ ((KV.grows (aA.lay _ _)).trans (KV.kx x fun w hw=>?_))
 ·by_cases hj:j < us.length
  ·rw [List.getElem?_append_left hj] at e1;rw [List.getElem?_append_left (by omega)] at e2;exact (k1.ue j w m e1 e2).kx x (ae w (List.mem_of_getElem? e1))
  ·have h1:=(List.getElem?_eq_some_iff.1 e1).1;rw [List.length_append,List.length_singleton] at h1;have:j = us.length:=by omega
   subst this;rw [List.getElem?_append_right (Nat.le_refl _)] at e1;rw [hul,List.getElem?_append_right (Nat.le_refl _)] at e2;simp at e1 e2;subst e1; subst e2;exact hu1.kx x aru
 ·rcases List.mem_append.1 hw with hw | hw
  ·obtain ⟨j,hj⟩:=List.getElem?_of_mem hw;exact a (j + 3) w (by omega) (by simpa using hj)
  ·exact ae w hw
theorem MZ.touch (k:MZ h H tz Z ov nv O us N cs rs){i:Nat}{v:Value}(hi:rs[i]? = some v)(x:Kx (ad v) H H')(g:aA h H')(hn:H.next≤H'.next):MZ h H' tz Z ov nv O us N cs rs∧KV (rs.set i aN ++ us) H H':=by
 have a:=fun j w hj hw=>k.sep.ap (i + 3) j v w hj (by simpa using hi) hw;have ae:=fun u hu=>k.sep.ape v (by simp [List.mem_of_getElem? hi]) u hu;refine ⟨⟨g,XW (a:=none) x k.z (a 0 _ (by omega) rfl),k.o.kx x (a 1 _ (by omega) rfl),k.n.kx x (a 2 _ (by omega) rfl),k.ul,fun j u l e1 e2=>(k.ue j u l e1 e2).kx x (ae u (List.mem_of_getElem? e1)),k.hZ,k.sep.next hn⟩,KV.kx x fun u hu=>?_⟩;rcases List.mem_append.1 hu with hu | hu
 ·obtain ⟨j,hj⟩:=List.getElem?_of_mem hu;by_cases e:j = i
  ·subst e;rw [List.getElem?_set] at hj;rw [if_pos rfl] at hj;split at hj
   ·cases hj; exact (Ap.nil _).symm
   ·cases hj
  ·rw [List.getElem?_set_ne (fun q=>e q.symm)] at hj;exact a (j + 3) u (by omega) (by simpa using hj)
 ·exact ae u hu
theorem MZ.Kh {z:Int}{b:Bool}{i:Nat}{v:Value}{l:List Int}{K:Value→Hp→Prop}(k:MZ h H tz Z ov nv O us N cs rs)(hi:rs[i]? = some v)(hb:bD h H 3 1 v l.length (l.map int))(hl:l.length≤1000000)
  (q:∀ v' H',(∃ a n,v' = .slice a n n)→bD h H' 3 1 v' (l ++ [z]).length ((l ++ [z]).map int)→MZ h H' tz Z ov nv O us N cs (rs.set i v')→KV (rs.set i aN ++ us) H H'→K v' H'):fB E (H.lay (.row 3 b [int z])) 3 1 8 v (slc H.next 0 1 1) K:=by
 have k1:=k.ext (aA.lay H (.row 3 b [int z]));have hb1:=hb.ext (aA.lay H (.row 3 b [int z]));refine fB.uf hb1 k1.gr (oH (u:=int z) rfl) (by omega) (by omega) (by omega) ?_;intro v' H' hb' hg' hkeep ⟨r',er,hr'⟩;have x:=Kx.dA hb1 hkeep;have hv:∀ r,ad v' = some r→(H.lay (.row 3 b [int z])).next≤r∧r < H'.next:=fun r e=>⟨by rw [er] at e; cases e; exact hr',(hb'.iU r e).2⟩;have hnx:(H.lay (.row 3 b [int z])).next≤H'.next:=by have:=hv r' (by rw [er]; rfl); omega
 obtain ⟨k2,kv⟩:=k1.touch hi x hg' hnx;have sep2:Rx.Sep H' (pl Z :: ov :: nv :: rs.set i v') us:=k1.sep.move hnx (i + 3) hv;exact q _ _ ⟨_,_,er⟩ (by rw [List.length_append,List.map_append]; exact hb') { k2 with sep:=sep2 } ((KV.grows (aA.lay _ _)).trans kv)
theorem MZ.add (k:MZ h H tz Z ov nv O us N cs rs)(g:aA H H'){i:Nat}{v:Value}(hi:rs[i]? = some aN)(hv:∀ r,ad v = some r→H.next≤r∧r < H'.next):MZ h H' tz Z ov nv O us N cs (rs.set i v) :=
 { k.ext g with sep:=k.sep.move g.next (i + 3) hv }
theorem MZ.more (k:MZ h H tz Z ov nv O us N cs rs)(g:aA H H'){v:Value}(hv:∀ r,ad v = some r→H.next≤r∧r < H'.next):MZ h H' tz Z ov nv O us N cs (rs ++ [v]) :=
 { k.ext g with sep:=k.sep.adH g.next hv }
theorem MZ.start {h H:Hp}{tz:Nat}{cs:List Value}(g:aA h H):MZ h (H.lay (.row tz true cs)) tz H.next aN aN [] [] [] cs [] :=
 ⟨g.bH _,Hp.ak _ _,bD.nil,bD.nil,rfl,fun k u l e=>by simp at e,g.next,by
  refine ⟨fun v hv r e=>?_,fun u hu=>by simp at hu,fun i j v u hij hi hj=>?_,fun v hv u hu=>by simp at hu⟩
  ·simp at hv;rcases hv with rfl | rfl
   ·cases e; rw [Hp.bF]; exact Nat.lt_succ_self _
   ·cases e
  ·match i,j,hi,hj with
   | 0,0,_,_=>exact absurd rfl hij
   | 0,1,hi,hj=>cases hj; exact (Ap.nil _).symm
   | 0,2,hi,hj=>cases hj; exact (Ap.nil _).symm
   | 0,j + 3,hi,hj=>simp at hj
   | 1,_,hi,hj=>cases hi; exact Ap.nil _
   | 2,_,hi,hj=>cases hi; exact Ap.nil _
   | i + 3,_,hi,_=>simp at hi⟩
end
end Go.Proofs.Ytedneplaibmppaa
namespace Go.Proofs.Ytedneplaibmppaa
open Go.Rx Go.RowKit
def rw_ (L:List (List Int))(s:Nat):List Int:=L.getD s []
def gl (l:List Int)(i:Nat):Int:=l.getD i 0
theorem l9 {l:List Int}{i:Nat}(h:i < l.length):gl l i = l[i]:=by
 unfold gl; rw [List.getD_eq_getElem?_getD,List.getElem?_eq_getElem h]; rfl
theorem Av {l:List (List Int)}{i:Nat}(h:i < l.length):rw_ l i = l[i]:=by
 unfold rw_; rw [List.getD_eq_getElem?_getD,List.getElem?_eq_getElem h]; rfl
theorem fC {l:List Int}{P:Int→Prop}(h:∀ x ∈ l,P x){j:Nat}(hj:j < l.length):P (gl l j):=by
 rw [l9 hj]; exact h _ (List.getElem_mem _)
structure OY (M:jh) (s:Nat):Prop where
 len:((rw_ M.next s).length:Int) = M.base
 lt:∀ x ∈ rw_ M.next s,0≤x∧x < M.out.length
 zer:gl M.out (gl (rw_ M.next s) 0).toNat = gl M.out s
structure OkI (M:jh):Prop where
 b2:2≤M.base
 b5:M.base≤5
 n1:1≤M.out.length
 n12:M.out.length≤12
 outs:∀ x ∈ M.out,0≤x∧x≤9
 len:M.next.length = M.out.length
 rows:∀ s,s < M.out.length→OY M s
theorem View.iI {h:Hp}{a:Option Addr}{n c:Nat}{l:List Int}(k:View h (.slice a n c) l){i:Nat}(hi:i < l.length):∃ r o sp,a = some ⟨r,o,sp⟩∧fA sp = false∧n = l.length∧cellAt h r (gU o i 1) = some (int (gl l i)):=by
 rw [l9 hi]; exact View.cell k hi
theorem Mat.iI {h:Hp}{a:Option Addr}{n c:Nat}{L:List (List Int)}(k:Mat h (.slice a n c) L){i:Nat}(hi:i < L.length):∃ r o sp a' c',a = some ⟨r,o,sp⟩∧fA sp = false∧n = L.length∧cellAt h r (gU o i 1) = some (.slice a' (rw_ L i).length c')∧View h (.slice a' (rw_ L i).length c') (rw_ L i):=by
 rw [Av hi]; exact Mat.cell k hi
attribute [local irreducible] E iJ cellAt bJ storeAt callable dh dG dO findKey dZ bP Hp.at Hp.set Hp.lay dL cO setAt aJ dx bO dz Rnd gq fB gY Int.tmod Int.tdiv Int.fdiv
section
variable [bC]
theorem C9 (v:Value)(l:List Int)(h:Hp)(hv:View h v l)(hl:l.length < 9223372036854775808)(most:Nat)(hm:most≤100000):aJ E 49 [v,int most] h (fun r h'=>Built h h' 3 r (l.take most)∧aA h h'):=by
 obtain ⟨a,c,rfl⟩:=hv.known;refine enter49 (by simp) ?_;conv=>whnf
 repeat (refine aC.go ?_; conv=>whnf)
 refine gY.ints (i:=0) (j:=min l.length most) hv ⟨.inl ⟨rfl,rfl⟩,.inr ?_⟩ (by omega) (by omega) ?_
 ·conv=>lhs; arg 1; whnf
  refine congrArg (fun n=>some (Value.int .i64 n)) ?_;split <;> omega
 intro v' hv' _ _;conv=>whnf
 refine fB.ints (h0:=h) (.inl ⟨rfl,rfl⟩) (.refl _) hv'.elems (by simp; omega) ?_;intro v2 h2 hb hg _;have e:[] ++ ((l.drop 0).take (min l.length most - 0)) = l.take most:=by
  rw [List.nil_append,List.drop_zero,Nat.sub_zero];by_cases hml:most≤l.length
  ·rw [Nat.min_eq_right hml]
  ·rw [Nat.min_eq_left (by omega),List.take_of_length_le (Nat.le_refl _),List.take_of_length_le (by omega)]
 rw [e] at hb;have hb':=hb;rcases hb' with ⟨rfl,_⟩ | ⟨r,rfl,_,_⟩
 ·conv=>whnf
  repeat (refine aC.go ?_; conv=>whnf)
  exact ⟨hb,hg⟩
 ·conv=>whnf
  repeat (refine aC.go ?_; conv=>whnf)
  exact ⟨hb,hg⟩
theorem Ip (n:Int)(h:Hp):aJ E 79 [int n] h (fun r h'=>(∃ b,r = .bool b∧bO b (0≤n∧n≤9))∧h' = h):=by
 refine enter79 (by simp) ?_;conv=>whnf
 repeat (refine aC.go ?_; conv=>whnf)
 refine dJ (fun hb=>?_) (fun hb=>?_)
 ·conv=>whnf
  refine dJ (fun hb2=>?_) (fun hb2=>?_)
  ·conv=>whnf
   repeat (refine aC.go ?_; conv=>whnf)
   exact ⟨⟨true,rfl,oJ (by omega)⟩,rfl⟩
  ·conv=>whnf
   repeat (refine aC.go ?_; conv=>whnf)
   exact ⟨⟨false,rfl,nX (by omega)⟩,rfl⟩
 ·conv=>whnf
  repeat (refine aC.go ?_; conv=>whnf)
  exact ⟨⟨false,rfl,nX (by omega)⟩,rfl⟩
theorem OZ (n:Int)(h:Hp):aJ E 89 [int n] h (fun r h'=>(∃ b,r = .bool b∧bO b (¬ (0≤n∧n≤9)))∧h' = h):=by
 refine enter89 (by simp) ?_;conv=>whnf
 repeat (refine aC.go ?_; conv=>whnf)
 refine aJ.mono (Ip n h) ?_;rintro r _ ⟨⟨b,rfl,hb⟩,rfl⟩
 cases b with
 | true =>
  conv=>whnf
  repeat (refine aC.go ?_; conv=>whnf)
  exact ⟨⟨false,rfl,nX fun k=>k hb.t⟩,rfl⟩
 | false =>
  conv=>whnf
  repeat (refine aC.go ?_; conv=>whnf)
  exact ⟨⟨true,rfl,oJ hb.f⟩,rfl⟩
def aap (g:FuncId)(caps:List Value)(P:Int→Prop)(h:Hp):Prop:=callable E g = true∧∀ x:Int,aJ E g ([int x] ++ caps) h (fun r h'=>(∃ b,r = .bool b∧bO b (P x))∧h' = h)
theorem index_spec (v:Value)(l:List Int)(g:FuncId)(caps:List Value)(P:Int→Prop)(h:Hp)(hv:View h v l)(hl:l.length≤1000000)(hp:aap g caps P h):aJ E 90 [v,.func (.func g) ⟨[]⟩ ⟨caps⟩] h (fun r h'=>(∃ k,r = int k∧(0≤k↔∃ x ∈ l,P x))∧h' = h):=by
 obtain ⟨a,cap,rfl⟩:=hv.known;refine enter90 (by simp) ?_;conv=>whnf
 refine aC.cut (α:=Unit) (fun _=>[(1,.func (.func g) ⟨[]⟩ ⟨caps⟩),(0,.slice a l.length cap)]) (fun _ H=>h = H) ?_ ?_
 ·conv=>whnf
  exact ⟨(),⟨rfl,rfl,trivial⟩,rfl,rfl⟩
 rintro _ φ1 _ rfl;conv=>whnf
 refine aC.cut (α:=Unit) (fun _=>[]) (fun _ H=>h = H∧¬ ∃ x ∈ l,P x) ?_ ?_;rotate_left
 ·rintro _ φ2 _ ⟨rfl,hn⟩;conv=>whnf
  repeat (refine aC.go ?_; conv=>whnf)
  exact ⟨⟨-1,rfl,⟨fun h=>by omega,fun h=>absurd h hn⟩⟩,rfl⟩
 conv=>whnf
 repeat (refine aC.go ?_; conv=>whnf)
 refine bT (α:=Nat) (fun k=>[(8,int k),(7,int l.length),(0,.slice a l.length cap),(1,.func (.func g) ⟨[]⟩ ⟨caps⟩)]) (fun _=>h) (fun k=>k≤l.length∧∀ x ∈ l.take k,¬ P x) (fun k=>l.length - k) 0 ⟨by omega,by simp⟩ ⟨rfl,rfl,rfl,rfl,trivial⟩ (Hp.Le.refl _) ?_;rintro k φ ⟨hk,hall⟩;conv=>whnf
 repeat (refine aC.go ?_; conv=>whnf)
 refine dJ (fun hb=>?_) (fun hb=>?_);rotate_left
 ·have:k = l.length:=by omega
  subst this;rw [List.take_length] at hall;conv=>whnf
  repeat (refine aC.go ?_; conv=>whnf)
  exact ⟨(),trivial,⟨rfl,fun ⟨x,hx,hp⟩=>hall x hx hp⟩,rfl⟩
 have hk':k < l.length:=by omega
 obtain ⟨r,o,sp,rfl,hsp,-,hcell⟩:=View.cell hv hk';conv=>whnf
 repeat (refine aC.go ?_; conv=>whnf)
 refine ⟨hsp,⟨by omega,by omega⟩,?_⟩;conv=>whnf
 refine ⟨_,hcell,?_⟩;conv=>whnf
 refine ⟨hp.1,?_⟩;refine aJ.mono (hp.2 l[k]) ?_;rintro r2 h2 ⟨⟨b,rfl,hb2⟩,rfl⟩
 cases b with
 | true =>
  conv=>whnf
  repeat (refine aC.go ?_; conv=>whnf)
  exact ⟨⟨k,rfl,⟨fun _=>⟨_,List.getElem_mem hk',hb2.t⟩,fun _=>by omega⟩⟩,rfl⟩
 | false =>
  conv=>whnf
  repeat (refine aC.go ?_; conv=>whnf)
  refine ⟨_,wid (by omega),?_⟩;conv=>whnf
  refine Rnd.mk (k + 1) ⟨by omega,fun x hx=>?_⟩ (by omega) ⟨rfl,rfl,rfl,rfl,trivial⟩ (Hp.Le.refl _) rfl;rw [List.take_succ_eq_append_getElem hk'] at hx;rcases List.mem_append.1 hx with h1 | h1
  ·exact hall x h1
  ·rw [List.mem_singleton.1 h1];exact hb2.f
theorem Aw (v:Value)(l:List Int)(g:FuncId)(caps:List Value)(P:Int→Prop)(h:Hp)(hv:View h v l)(hl:l.length≤1000000)(hp:aap g caps P h):aJ E 59 [v,.func (.func g) ⟨[]⟩ ⟨caps⟩] h (fun r h'=>(∃ b,r = .bool b∧bO b (∃ x ∈ l,P x))∧h' = h):=by
 refine enter59 (by simp) ?_;obtain ⟨a,cap,rfl⟩:=hv.known;conv=>whnf
 repeat (refine aC.go ?_; conv=>whnf)
 refine aJ.mono (index_spec _ l g caps P h hv hl hp) ?_;rintro r h2 ⟨⟨k,rfl,hk⟩,rfl⟩;conv=>whnf
 refine dJ (fun hb2=>?_) (fun hb2=>?_)
 ·conv=>whnf
  repeat (refine aC.go ?_; conv=>whnf)
  exact ⟨⟨true,rfl,oJ (hk.1 hb2)⟩,rfl⟩
 ·conv=>whnf
  repeat (refine aC.go ?_; conv=>whnf)
  exact ⟨⟨false,rfl,nX fun hn=>hb2 (hk.2 hn)⟩,rfl⟩
theorem nP (v:Value)(l:List Int)(h:Hp)(hv:View h v l)(hl:l.length≤1000000):aJ E 57 [v] h (fun r h'=>(∃ b,r = .bool b∧bO b (∀ x ∈ l,0≤x∧x≤9))∧h' = h):=by
 refine enter57 (by simp) ?_;obtain ⟨a,cap,rfl⟩:=hv.known;conv=>whnf
 repeat (refine aC.go ?_; conv=>whnf)
 refine aJ.mono (Aw _ l 89 [] (fun n=>¬ (0≤n∧n≤9)) h hv hl ⟨can89,fun x=>OZ x h⟩) ?_;rintro r h2 ⟨⟨b,rfl,hb⟩,rfl⟩
 cases b with
 | true =>
  conv=>whnf
  repeat (refine aC.go ?_; conv=>whnf)
  exact ⟨⟨false,rfl,nX fun k=>by obtain ⟨x,hx,hn⟩:=hb.t; exact hn (k x hx)⟩,rfl⟩
 | false =>
  conv=>whnf
  repeat (refine aC.go ?_; conv=>whnf)
  exact ⟨⟨true,rfl,oJ fun x hx=>Classical.byContradiction fun k=>hb.f ⟨x,hx,k⟩⟩,rfl⟩
theorem Mk (n:Int)(m r o:Nat)(h:Hp)(hc:cellAt h r o = some (int m)):aJ E 58 [int n,ptr r o] h (fun r h'=>(∃ b,r = .bool b∧bO b (¬ (0≤n∧n < m)))∧h' = h):=by
 refine enter58 (by simp) ?_;conv=>whnf
 repeat (refine aC.go ?_; conv=>whnf)
 refine dJ (fun hb=>?_) (fun hb=>?_)
 ·conv=>whnf
  repeat (refine aC.go ?_; conv=>whnf)
  exact ⟨⟨true,rfl,oJ (by omega)⟩,rfl⟩
 ·conv=>whnf
  refine ⟨_,hc,?_⟩;conv=>whnf
  refine dJ (fun hb2=>?_) (fun hb2=>?_)
  ·conv=>whnf
   repeat (refine aC.go ?_; conv=>whnf)
   exact ⟨⟨true,rfl,oJ (by omega)⟩,rfl⟩
  ·conv=>whnf
   repeat (refine aC.go ?_; conv=>whnf)
   exact ⟨⟨false,rfl,nX (by omega)⟩,rfl⟩
end
end Go.Proofs.Ytedneplaibmppaa
namespace Go.Proofs.Ytedneplaibmppaa
open Go.Rx Go.RowKit
structure Cx (H:Hp) (r:Nat) (M:jh) (ao an:Option Addr) (co cn:Nat):Prop where
 c0:cellAt H r 0 = some (int M.base)
 c1:cellAt H r 1 = some (.slice ao M.out.length co)
 c2:cellAt H r 2 = some (.slice an M.next.length cn)
 o:View H (.slice ao M.out.length co) M.out
 n:Mat H (.slice an M.next.length cn) M.next
theorem Cx.ext {H H':Hp}{r:Nat}{M:jh}{ao an:Option Addr}{co cn:Nat}(g:aA H H')(k:Cx H r M ao an co cn):Cx H' r M ao an co cn:=⟨g.cell k.c0,g.cell k.c1,g.cell k.c2,k.o.ext g,k.n.ext g⟩
theorem Bx.cx {h:Hp}{bx:List Value}{M:jh}(k:Bx h bx M):∃ ao an co cn,∀ (H:Hp) (r t:Nat),aA h H→H.at r = some (.row t true bx)→Cx H r M ao an co cn:=by
 obtain ⟨hl,hb,⟨a,c,ho,h1⟩,⟨a',c',hn,h2⟩⟩:=k;exact ⟨a,a',c,c',fun H r t g hr=>⟨bA hr hb,bA hr ho,bA hr hn,h1.ext g,h2.ext g⟩⟩
theorem Cx.rowAt {H:Hp}{r:Nat}{M:jh}{ao an:Option Addr}{co cn:Nat}(k:Cx H r M ao an co cn){i:Nat}(hi:i < M.next.length):∃ r o sp a' c',an = some ⟨r,o,sp⟩∧fA sp = false∧cellAt H r (gU o i 1) = some (.slice a' (rw_ M.next i).length c')∧View H (.slice a' (rw_ M.next i).length c') (rw_ M.next i):=by
 obtain ⟨r,o,sp,a',c',h1,h2,-,h3,h4⟩:=Mat.iI k.n hi;exact ⟨r,o,sp,a',c',h1,h2,h3,h4⟩
theorem Cx.Ki {H:Hp}{r:Nat}{M:jh}{ao an:Option Addr}{co cn:Nat}(k:Cx H r M ao an co cn){i:Nat}(hi:i < M.out.length):∃ r o sp,ao = some ⟨r,o,sp⟩∧fA sp = false∧cellAt H r (gU o i 1) = some (int (gl M.out i)):=by
 obtain ⟨r,o,sp,h1,h2,-,h3⟩:=View.iI k.o hi;exact ⟨r,o,sp,h1,h2,h3⟩
attribute [local irreducible] E iJ cellAt bJ storeAt callable dh dG dO findKey dZ bP Hp.at Hp.set Hp.lay dL cO setAt aJ dx bO dz Rnd gq fB gY Int.tmod Int.tdiv Int.fdiv
section
variable [bC]
theorem lg (v:Value)(M:jh)(h:Hp)(hv:MV h v M)(ho:M.out.length≤1000000)(hn:M.next.length≤1000000)(hr:∀ s,(rw_ M.next s).length≤1000000):aJ E 20 [v] h (fun r h'=>(∃ e:Int,r = int e∧(OkI M→e = 0)∧(¬ OkI M→e = 50))∧aA h h'):=by
 obtain ⟨bx,rfl,hbx⟩:=hv.box;obtain ⟨ao,an,co,cn,hcx⟩:=hbx.cx;have bad:∀ H,aA h H→¬ OkI M→(∃ e:Int,int 50 = int e∧(OkI M→e = 0)∧(¬ OkI M→e = 50))∧aA h H:=fun H g k=>⟨⟨50,rfl,fun q=>absurd q k,fun _=>rfl⟩,g⟩;refine enter20 (by simp) ?_;conv=>whnf
 refine aC.cut (α:=Unit) (fun _=>[(1,ptr h.next 0)]) (fun _ H=>h.lay (.row 25 true bx) = H) ?_ ?_
 ·conv=>whnf
  exact ⟨(),⟨rfl,trivial⟩,rfl,rfl⟩
 rintro _ φ1 _ rfl;have adJ:∃ H,h.lay (.row 25 true bx) = H:=⟨_,rfl⟩;obtain ⟨H,eH⟩:=adJ;have gH:aA h H:=eH ▸ aA.lay _ _;have aH:H.at h.next = some (.row 25 true bx):=eH ▸ Hp.ak _ _;have nH:H.next = h.next + 1:=by rw [← eH,Hp.bF]
 rw [eH];clear eH;have kx:=hcx H h.next 25 gH aH;conv=>whnf
 refine aC.cut (α:=Hp) (fun _=>[(3,ptr (h.next + 1) 0),(1,ptr h.next 0)]) (fun s H2=>s = H2∧aA H s∧s.at (h.next + 1) = some (.row 3 true [int M.out.length])) ?_ ?_
 ·conv=>whnf
  refine ⟨_,kx.c1,?_⟩;conv=>whnf
  refine ⟨rfl,_,bX (vs:=[int M.out.length]) rfl rfl rfl,?_⟩;conv=>whnf
  exact ⟨_,⟨congrArg (fun k=>ptr k 0) nH,rfl,trivial⟩,⟨rfl,aA.lay _ _,eB nH (Hp.ak _ _)⟩,rfl⟩
 rintro H2 φ2 _ ⟨rfl,g2,aY⟩;have kx2:=kx.ext g2;have gh2:=gH.trans g2;have cY:cellAt H2 (h.next + 1) 0 = some (int M.out.length):=bA aY rfl;have c0:=kx2.c0;have c1:=kx2.c1;have c2:=kx2.c2;conv=>whnf
 refine aC.cut (α:=Unit) (fun _=>[(3,ptr (h.next + 1) 0),(1,ptr h.next 0)]) (fun _ H3=>H2 = H3∧2≤M.base∧M.base≤5∧1≤M.out.length∧M.out.length≤12∧(∀ x ∈ M.out,0≤x∧x≤9)∧M.next.length = M.out.length) ?_ ?_
 ·conv=>whnf
  repeat (refine aC.go ?_; conv=>whnf)
  refine ⟨_,c0,?_⟩;conv=>whnf
  refine dJ (fun q1=>?_) (fun q1=>?_)
  ·conv=>whnf
   repeat (refine aC.go ?_; conv=>whnf)
   exact bad _ gh2 fun k=>by have:=k.b2; omega
  conv=>whnf
  refine ⟨_,c0,?_⟩;conv=>whnf
  refine dJ (fun q2=>?_) (fun q2=>?_)
  ·conv=>whnf
   repeat (refine aC.go ?_; conv=>whnf)
   exact bad _ gh2 fun k=>by have:=k.b5; omega
  conv=>whnf
  refine ⟨_,cY,?_⟩;conv=>whnf
  refine dJ (fun q3=>?_) (fun q3=>?_)
  ·conv=>whnf
   repeat (refine aC.go ?_; conv=>whnf)
   exact bad _ gh2 fun k=>by have:=k.n1; omega
  conv=>whnf
  refine ⟨_,cY,?_⟩;conv=>whnf
  refine dJ (fun q4=>?_) (fun q4=>?_)
  ·conv=>whnf
   repeat (refine aC.go ?_; conv=>whnf)
   exact bad _ gh2 fun k=>by have:=k.n12; omega
  conv=>whnf
  refine ⟨_,c1,?_⟩;conv=>whnf
  refine aJ.mono (nP _ M.out _ kx2.o ho) ?_;rintro r _ ⟨⟨b,rfl,hb⟩,rfl⟩
  cases b with
  | false =>
   conv=>whnf
   repeat (refine aC.go ?_; conv=>whnf)
   exact bad _ gh2 fun k=>hb.f k.outs
  | true =>
   have hb':=hb.t;conv=>whnf
   refine ⟨_,c2,?_⟩;conv=>whnf
   refine ⟨_,cY,?_⟩;conv=>whnf
   refine dJ (fun q5=>?_) (fun q5=>?_)
   ·conv=>whnf
    repeat (refine aC.go ?_; conv=>whnf)
    exact bad _ gh2 fun k=>by have:=k.len; omega
   ·conv=>whnf
    repeat (refine aC.go ?_; conv=>whnf)
    exact ⟨(),⟨rfl,rfl,trivial⟩,⟨rfl,by omega,by omega,by omega,by omega,hb',by omega⟩,rfl⟩
 rintro _ φ3 _ ⟨rfl,b2,b5,n1,n12,hos,hnl⟩;conv=>whnf
 refine aC.go ?_;conv=>whnf
 refine aC.cut (α:=Unit) (fun _=>[]) (fun _ H3=>H2 = H3∧∀ s,s < M.out.length→OY M s) ?_ ?_;rotate_left
 ·rintro _ φ4 _ ⟨rfl,hrows⟩;conv=>whnf
  repeat (refine aC.go ?_; conv=>whnf)
  exact ⟨⟨0,rfl,fun _=>rfl,fun k=>absurd ⟨b2,b5,n1,n12,hos,hnl,hrows⟩ k⟩,gh2⟩
 conv=>whnf
 repeat (refine aC.go ?_; conv=>whnf)
 refine ⟨_,c2,?_⟩;conv=>whnf
 refine bT (α:=Nat) (fun k=>[(43,int k),(42,int M.next.length),(41,.slice an M.next.length cn),(4,.func (.func 58) ⟨[]⟩ ⟨[ptr (h.next + 1) 0]⟩),(1,ptr h.next 0)]) (fun _=>H2) (fun k=>k≤M.out.length∧∀ s,s < k→OY M s) (fun k=>M.out.length - k) 0 ⟨Nat.zero_le _,fun s hs=>by omega⟩ ⟨rfl,rfl,rfl,rfl,rfl,trivial⟩ (Hp.Le.refl _) ?_;rintro k φ5 ⟨hk,hall⟩;conv=>whnf
 repeat (refine aC.go ?_; conv=>whnf)
 refine dJ (fun q1=>?_) (fun q1=>?_);rotate_left
 ·conv=>whnf
  repeat (refine aC.go ?_; conv=>whnf)
  exact ⟨(),trivial,⟨rfl,fun s hs=>hall s (by omega)⟩,rfl⟩
 have hkn:k < M.next.length:=by omega
 have hko:k < M.out.length:=by omega
 have hrow:=kx2.rowAt hkn;obtain ⟨r,o,sp,a',c',rfl,hsp,hcell,O1⟩:=hrow;have hrl:=hr k;have adK:∃ row,rw_ M.next k = row:=⟨_,rfl⟩;obtain ⟨row,Q6⟩:=adK;rw [Q6] at hcell O1 hrl;have nobad:¬ OY M k→¬ OkI M:=fun x y=>x (y.rows k hko);conv=>whnf
 refine aC.go ?_;conv=>whnf
 refine aC.cut (α:=Unit) (fun _=>[(43,int k),(42,int M.next.length),(41,.slice (some ⟨r,o,sp⟩) M.next.length cn),(4,.func (.func 58) ⟨[]⟩ ⟨[ptr (h.next + 1) 0]⟩),(1,ptr h.next 0)]) (fun _ H3=>H2 = H3∧OY M k) ?_ ?_;rotate_left
 ·rintro _ φ6 _ ⟨rfl,hrk⟩;conv=>whnf
  refine ⟨((k + 1:Nat):Int),wie (by omega) (by omega),?_⟩;conv=>whnf
  refine Rnd.mk (k + 1) ⟨by omega,fun s hs=>?_⟩ (by omega) ⟨rfl,rfl,rfl,rfl,rfl,trivial⟩ (Hp.Le.refl _) rfl;by_cases e:s = k
  ·rw [e]; exact hrk
  ·exact hall s (by omega)
 conv=>whnf
 repeat (refine aC.go ?_; conv=>whnf)
 refine ⟨hsp,⟨by omega,by omega⟩,?_⟩;conv=>whnf
 refine ⟨_,hcell,?_⟩;conv=>whnf
 repeat (refine aC.go ?_; conv=>whnf)
 refine ⟨_,c0,?_⟩;conv=>whnf
 refine dJ (fun q2=>?_) (fun q2=>?_)
 ·conv=>whnf
  repeat (refine aC.go ?_; conv=>whnf)
  exact bad _ gh2 (nobad fun x=>by have:=x.len; rw [Q6] at this; omega)
 conv=>whnf
 refine aJ.mono (Aw _ row 58 [ptr (h.next + 1) 0] (fun n=>¬ (0≤n∧n < (M.out.length:Int))) _ O1 hrl ⟨can58,fun x=>Mk x _ _ _ _ cY⟩) ?_;rintro rr _ ⟨⟨b,rfl,hb⟩,rfl⟩
 cases b with
 | true =>
  conv=>whnf
  repeat (refine aC.go ?_; conv=>whnf)
  exact bad _ gh2 (nobad fun x=>by obtain ⟨y,hy,hn⟩:=hb.t; exact hn (x.lt y (by rw [Q6]; exact hy)))
 | false =>
  have hin:∀ x ∈ row,0≤x∧x < (M.out.length:Int):=fun x hx=>Classical.byContradiction fun k=>hb.f ⟨x,hx,k⟩;have hl0:0 < row.length:=by omega
  have hz:=fC (P:=fun x=>0≤x∧x < (M.out.length:Int)) hin hl0;have h0:=View.iI O1 hl0;obtain ⟨r2,o2,sp2,rfl,hsp2,-,hc0⟩:=h0;have XY:∃ z:Nat,gl row 0 = (z:Int):=⟨(gl row 0).toNat,by omega⟩;obtain ⟨z,ez⟩:=XY;rw [ez] at hc0 hz;have hz1:=kx2.Ki (i:=z) (by omega);obtain ⟨r3,o3,sp3,rfl,ug,hcz⟩:=hz1;have hk1:=kx2.Ki hko;obtain ⟨r4,o4,sp4,e4,Fg,hck⟩:=hk1;cases e4
  conv=>whnf
  refine ⟨_,c1,?_⟩;conv=>whnf
  refine ⟨hsp2,⟨by omega,by omega⟩,?_⟩;conv=>whnf
  refine ⟨_,hc0,?_⟩;conv=>whnf
  refine ⟨ug,⟨by omega,by omega⟩,?_⟩;conv=>whnf
  refine ⟨_,hcz,?_⟩;conv=>whnf
  refine ⟨_,c1,?_⟩;conv=>whnf
  refine ⟨ug,⟨by omega,by omega⟩,?_⟩;conv=>whnf
  refine ⟨_,hck,?_⟩;conv=>whnf
  refine dJ (fun q3=>?_) (fun q3=>?_)
  ·conv=>whnf
   repeat (refine aC.go ?_; conv=>whnf)
   exact bad _ gh2 (nobad fun x=>by have:=x.zer; rw [Q6,ez,Int.toNat_natCast] at this; exact q3 this)
  ·conv=>whnf
   repeat (refine aC.go ?_; conv=>whnf)
   refine ⟨(),⟨rfl,rfl,rfl,rfl,rfl,trivial⟩,⟨rfl,⟨by rw [Q6]; omega,by rw [Q6]; exact hin,?_⟩⟩,rfl⟩;rw [Q6,ez,Int.toNat_natCast];exact Classical.byContradiction q3
end
end Go.Proofs.Ytedneplaibmppaa
namespace Go.Proofs.Ytedneplaibmppaa
open Go.Rx Go.RowKit
/-! Machines of naturals, as data. -/
theorem Mac.Ti (m:Mac)(s:Nat):rw_ m.i.next s = (m.next.getD s []).map fun n:Nat=>(n:Int):=by
 unfold rw_ Mac.i;dsimp only;rw [List.getD_eq_getElem?_getD,List.getD_eq_getElem?_getD,List.getElem?_map];cases m.next[s]? <;> rfl
theorem Mac.ab8 (m:Mac):m.i.next.length = m.next.length:=by unfold Mac.i; dsimp only; rw [List.length_map]
theorem Mac.XZ (m:Mac)(s d:Nat):gl (rw_ m.i.next s) d = (m.nx s d:Int):=by
 rw [Mac.Ti];unfold gl Mac.nx;generalize m.next.getD s [] = l;rw [List.getD_eq_getElem?_getD,List.getD_eq_getElem?_getD,List.getElem?_map];cases l[d]? <;> rfl
theorem Mac.Ok.vC {m:Mac}(h:m.Ok):m.i.next.length = m.out.length:=by rw [Mac.ab8,h.len]
theorem Mac.Ok.Vb {m:Mac}(h:m.Ok){s:Nat}(hs:s < m.out.length):(rw_ m.i.next s).length = m.base:=by rw [Mac.Ti,List.length_map,h.row s hs]
theorem Cx.kR {H:Hp}{r:Nat}{m:Mac}(hm:m.Ok){ao an:Option Addr}{co cn:Nat}(k:Cx H r m.i ao an co cn){s d:Nat}(hs:s < m.out.length)(hd:d < m.base):∃ r o sp r' o' sp' c',an = some ⟨r,o,sp⟩∧fA sp = false∧cellAt H r (gU o s 1) = some (.slice (some ⟨r',o',sp'⟩) m.base c')∧fA sp' = false∧cellAt H r' (gU o' d 1) = some (int (m.nx s d)):=by
 obtain ⟨r,o,sp,a',c',h1,h2,h3,h4⟩:=k.rowAt (i:=s) (by rw [hm.vC]; exact hs);obtain ⟨r',o',sp',h5,h6,-,h7⟩:=View.iI h4 (i:=d) (by rw [hm.Vb hs]; exact hd);rw [Mac.XZ] at h7;subst h5;rw [hm.Vb hs] at h3;exact ⟨r,o,sp,r',o',sp',c',h1,h2,h3,h6,h7⟩
theorem Cx.qD {H:Hp}{r:Nat}{m:Mac}{ao an:Option Addr}{co cn:Nat}(k:Cx H r m.i ao an co cn){s:Nat}(hs:s < m.out.length):∃ r o sp,ao = some ⟨r,o,sp⟩∧fA sp = false∧cellAt H r (gU o s 1) = some (int (m.o s)):=by
 obtain ⟨r,o,sp,h1,h2,h3⟩:=k.Ki (i:=s) hs;exact ⟨r,o,sp,h1,h2,h3⟩
theorem rG (a b:Nat):(a:Int).tmod (b:Int) = ((a % b:Nat):Int):=by
 rw [Int.tmod_eq_emod_of_nonneg (by omega)]; rfl
theorem CQ (a b:Nat):(a:Int).tdiv (b:Int) = ((a / b:Nat):Int):=by
 rw [Int.tdiv_eq_ediv_of_nonneg (by omega)]; rfl
theorem drop_cons {α:Type}{l r:List α}{x:α}{k:Nat}(h:l.drop k = x :: r):∃ hk:k < l.length,l[k] = x∧l.drop (k + 1) = r:=by
 have hk:k < l.length:=by
  rcases Nat.lt_or_ge k l.length with h1 | h1
  ·exact h1
  ·rw [List.drop_of_length_le h1] at h; cases h
 rw [List.drop_eq_getElem_cons hk] at h;injection h with h1 h2;exact ⟨hk,h1,h2⟩
def dvs (b n:Nat):List (List Value):=(dg b n).map fun d:Nat=>[int (d:Int)]
attribute [local irreducible] E iJ cellAt bJ storeAt callable dh dG dO findKey dZ bP Hp.at Hp.set Hp.lay dL cO setAt aJ dx bO dz Rnd gq fB gY Int.tmod Int.tdiv Int.fdiv
section
variable [bC]
theorem O5 (n b:Int)(h:Hp):aJ E 91 [int n,int b] h (fun r h'=>r = .func (.func 104) ⟨[]⟩ ⟨[ptr h.next 0,ptr (h.next + 1) 0]⟩∧h' = (h.lay (.row 2 true [int n])).lay (.row 3 true [int b])):=by
 have n1:(h.lay (.row 2 true [int n])).next = h.next + 1:=Hp.bF _ _;refine enter91 (by simp) ?_;conv=>whnf
 repeat (refine aC.go ?_; conv=>whnf)
 exact ⟨congrArg (fun k=>Value.func (.func 104) ⟨[]⟩ ⟨[ptr h.next 0,ptr k 0]⟩) n1,rfl⟩
theorem O6 (b n:Nat)(hb:2≤b∧b≤25)(hn:n < 9223372036854775808)(c c' l:Nat)(I:Nat→Hp→Prop)(S:Hp→Prop)(h:Hp)(loc:∀ k h h',I k h→Keeps c h h'→I k h')(hJ:∀ k h,I k h→cellAt h c' 0 = some (int b))(hc:h.at c = some (.row 2 true [int n]))(hcc:c'≠c)(h0:I 0 h)(hit:aao E l c (dvs b n) I S):aJ E 104 [lQ l,ptr c 0,ptr c' 0] h (fun _ h'=>I (dvs b n).length h'∨S h'):=by
 have hlen:(dvs b n).length = (dg b n).length:=by simp [dvs]
 rw [hlen];refine enter104 (by simp) ?_;conv=>whnf
 refine bT (α:=Nat×Nat×Hp) (fun s=>[(0,lQ l),(1,ptr c 0),(2,ptr c' 0)]) (fun s=>s.2.2) (fun s=>s.2.2.at c = some (.row 2 true [int s.2.1])∧dg b s.2.1 = (dg b n).drop s.1∧I s.1 s.2.2∧s.2.1≤n∧s.1≤(dg b n).length) (fun s=>s.2.1) (0,n,h) ⟨hc,rfl,h0,Nat.le_refl _,Nat.zero_le _⟩ ⟨rfl,rfl,rfl,trivial⟩ (Hp.Le.refl _) ?_;rintro ⟨k,x,H⟩ φ ⟨hx,hd,hI,hxn,hkl⟩;dsimp only at hx hd hI hxn hkl ⊢;have cx:cellAt H c 0 = some (int x):=bA hx rfl;have cb:=hJ k H hI;conv=>whnf
 repeat (refine aC.go ?_; conv=>whnf)
 refine ⟨_,cx,?_⟩;conv=>whnf
 refine dJ (fun q1=>?_) (fun q1=>?_);rotate_left
 ·have:x = 0:=by omega
  subst this;rw [Tf] at hd;have:k = (dg b n).length:=by
   have:=List.drop_eq_nil_iff.1 hd.symm;omega
  conv=>whnf
  exact .inl (by rw [← this]; exact hI)
 rw [Io hb.1 (by omega)] at hd;have hdc:=drop_cons hd.symm;obtain ⟨hk,ex,hdr⟩:=hdc;have hyl:=hit k (by rw [hlen]; exact hk) H hI;rw [show (dvs b n)[k]'(by rw [hlen]; exact hk) = [int (x % b:Nat)] from by unfold dvs; rw [List.getElem_map,ex]] at hyl;have em:=rG x b;have ed:=CQ x b;have hlt:x / b < x:=Nat.div_lt_self (by omega) hb.1;have Q7:∃ q,x / b = q:=⟨_,rfl⟩;obtain ⟨q,eq⟩:=Q7;rw [eq] at hlt ed hdr;conv=>whnf
 refine aC.cut (α:=Hp) (fun s=>[(0,lQ l),(1,ptr c 0),(2,ptr c' 0)]) (fun s H2=>s = H2∧I (k + 1) s∧s.at c = some (.row 2 true [int x])) ?_ ?_
 ·conv=>whnf
  repeat (refine aC.go ?_; conv=>whnf)
  refine ⟨_,cx,?_⟩;conv=>whnf
  refine ⟨_,cb,?_⟩;conv=>whnf
  refine ⟨by omega,?_⟩;conv=>whnf
  rw [em];refine dx.mono hyl ?_;rintro v H2 (⟨rfl,hI2,hc2⟩ | ⟨rfl,hS⟩)
  ·conv=>whnf
   repeat (refine aC.go ?_; conv=>whnf)
   exact ⟨_,⟨rfl,rfl,rfl,trivial⟩,⟨rfl,hI2,hc2 _ hx⟩,rfl⟩
  ·conv=>whnf
   repeat (refine aC.go ?_; conv=>whnf)
   exact .inr hS
 rintro H2 φ2 _ ⟨rfl,hI2,hx2⟩;have cx2:cellAt H2 c 0 = some (int x):=bA hx2 rfl;have cb2:=hJ _ _ hI2;conv=>whnf
 refine ⟨_,cx2,?_⟩;conv=>whnf
 refine ⟨_,cb2,?_⟩;conv=>whnf
 refine ⟨by omega,(q:Int),wie ed (by omega),?_⟩;conv=>whnf
 refine ⟨rfl,_,bE (vs:=[int q]) hx2 rfl rfl rfl,?_⟩;conv=>whnf
 exact Rnd.mk (k + 1,q,_) ⟨Hp.bB _ (Hp.aU hx2),hdr.symm,loc _ _ _ hI2 (Keeps.set _ _ _),by show q≤n; omega,hk⟩ (by show q < x; exact hlt) ⟨rfl,rfl,rfl,trivial⟩ (Hp.Le.refl _) rfl
end
end Go.Proofs.Ytedneplaibmppaa
namespace Go.Proofs.Ytedneplaibmppaa
open Go.Rx Go.RowKit
theorem O7 (m:Mac)(w:List Nat)(s d:Nat):m.run s (w ++ [d]) = m.nx (m.run s w) d:=Mac.FP m w [d] s
theorem Zp {b n k:Nat}{xs:List Value}(h:(dvs b n)[k]? = some xs):∃ (hk:k < (dg b n).length) (d:Nat),(dg b n)[k] = d∧xs = [int d]:=by
 unfold dvs at h;rw [List.getElem?_map,Option.map_eq_some_iff] at h;obtain ⟨d,h1,h2⟩:=h;obtain ⟨hk,e⟩:=List.getElem?_eq_some_iff.1 h1;exact ⟨hk,d,e,h2.symm⟩
attribute [local irreducible] E iJ cellAt bJ storeAt callable dh dG dO findKey dZ bP Hp.at Hp.set Hp.lay dL cO setAt aJ dx bO dz Rnd gq fB gY Int.tmod Int.tdiv Int.fdiv
section
variable [bC]
attribute [local irreducible] j6 wL Ta Zk
theorem FT (v:Value)(m:Mac)(s n:Nat)(h:Hp)(hv:MV h v m.i)(hm:m.Ok)(hb:2≤m.base∧m.base≤25)(hs:s < m.out.length)(hl:m.out.length≤1000000)(hn:n < 9223372036854775808):aJ E 62 [v,int s,int n] h (fun r h'=>r = int (m.at_ s n)∧aA h h'):=by
 obtain ⟨bx,rfl,hbx⟩:=hv.box;obtain ⟨ao,an,co,cn,hcx⟩:=hbx.cx;refine enter62 (by simp) ?_;conv=>whnf
 refine aC.cut (α:=Hp) (fun _=>[(4,ptr (h.next + 1) 0),(3,ptr h.next 0),(2,int n)]) (fun x H=>x = H∧aA h H∧H.at h.next = some (.row 25 true bx)∧H.at (h.next + 1) = some (.row 3 true [int s])∧H.next = h.next + 2) ?_ ?_
 ·conv=>whnf
  have n1:(h.lay (.row 25 true bx)).next = h.next + 1:=Hp.bF _ _;exact ⟨_,⟨congrArg (fun k=>ptr k 0) n1,rfl,rfl,trivial⟩,⟨rfl,(aA.lay _ _).bH _,Hp.bg _ (Hp.ak _ _),eB n1 (Hp.ak _ _),by rw [Hp.bF,n1]⟩,rfl⟩
 rintro H φ1 _ ⟨rfl,gH,aX,aY,nH⟩;have c0:=(hcx H h.next 25 gH aX).c0;conv=>whnf
 refine aC.adG (α:=Unit) (fun _=>[(4,ptr (h.next + 1) 0),(3,ptr h.next 0)]) (fun _=>[h.next + 4]) (fun _ H2=>H2.at (h.next + 4) = some .dY∧aA h H2∧H2.at h.next = some (.row 25 true bx)∧H2.at (h.next + 1) = some (.row 3 true [int (m.run s (dg m.base n))])) ?_ ?_;rotate_left
 ·rintro _ φ2 H2 ⟨aM2,g2,aX2,aY2⟩;have k2:=hcx H2 h.next 25 g2 aX2;have c1:cellAt H2 h.next 1 = some (.slice ao m.out.length co):=k2.c1;have hsn:=hm.run hs (CZ hb.1 n);have ho:=k2.qD hsn;obtain ⟨r,o,sp,rfl,hsp,hco⟩:=ho;have cY:cellAt H2 (h.next + 1) 0 = some (int (m.run s (dg m.base n))):=bA aY2 rfl;conv=>whnf
  repeat (refine aC.go ?_; conv=>whnf)
  refine ⟨_,c1,?_⟩;conv=>whnf
  refine ⟨_,cY,?_⟩;conv=>whnf
  refine ⟨hsp,⟨by omega,by omega⟩,?_⟩;conv=>whnf
  refine ⟨_,hco,?_⟩;conv=>whnf
  repeat (refine aC.go ?_; conv=>whnf)
  refine U0 aM2 ?_;exact u7 rfl rfl ⟨rfl,g2.bQ _ (by omega)⟩
 conv=>whnf
 repeat (refine aC.go ?_; conv=>whnf)
 refine ⟨_,c0,?_⟩;conv=>whnf
 refine aJ.mono (O5 n m.base H) ?_;rintro _ _ ⟨rfl,rfl⟩;conv=>whnf
 repeat (refine aC.go ?_; conv=>whnf)
 have m1:(H.lay (.row 2 true [int n])).next = H.next + 1:=Hp.bF _ _;have m2:((H.lay (.row 2 true [int n])).lay (.row 3 true [int m.base])).next = H.next + 2:=by rw [Hp.bF,m1]
 have m3:(((H.lay (.row 2 true [int n])).lay (.row 3 true [int m.base])).lay .dY).next = H.next + 3:=by rw [Hp.bF,m2]
 have a7:∀ o,((((H.lay (.row 2 true [int n])).lay (.row 3 true [int m.base])).lay .dY).lay o).at (H.next + 2) = some .dY:=fun o=>Hp.bg _ (eB m2 (Hp.ak _ _));have g4:∀ o,aA H ((((H.lay (.row 2 true [int n])).lay (.row 3 true [int m.base])).lay .dY).lay o):=fun o=>(((aA.lay _ _).bH _).bH _).bH _;have a5:∀ o,((((H.lay (.row 2 true [int n])).lay (.row 3 true [int m.base])).lay .dY).lay o).at H.next = some (.row 2 true [int n]):=fun o=>Hp.bg _ (Hp.bg _ (Hp.bg _ (Hp.ak _ _)));have a6:∀ o,((((H.lay (.row 2 true [int n])).lay (.row 3 true [int m.base])).lay .dY).lay o).at (H.next + 1) = some (.row 3 true [int m.base]):=fun o=>Hp.bg _ (Hp.bg _ (eB m1 (Hp.ak _ _)));have hdl:(dvs m.base n).length = (dg m.base n).length:=by simp [dvs]
 refine U3 H.next (by rw [m3]; omega) (fun hh=>cellAt hh (H.next + 1) 0 = some (int m.base)) (dvs m.base n) (fun k hh=>aA h hh∧hh.at h.next = some (.row 25 true bx)∧hh.at (h.next + 1) = some (.row 3 true [int (m.run s ((dg m.base n).take k))])∧hh.at (H.next + 1) = some (.row 3 true [int m.base])∧hh.at (H.next + 2) = some .dY) (fun _=>False) can104 ?_ rfl (fun I S loc hJ h0 hit=>O6 m.base n hb hn H.next (H.next + 1) _ I S _ loc hJ (a5 _) (by omega) h0 hit) ?_ ?_ ?_ ?_ ?_ ?_
 ·intro k hk;unfold dvs at hk ⊢;rw [List.getElem_map];rfl
 ·rintro k h1 h2 ⟨q1,q2,q3,q4,q5⟩ y;exact ⟨y.grows q1 (by omega),y.at_ _ _ (by omega) q2,y.at_ _ _ (by omega) q3,y.at_ _ _ (by omega) q4,y.at_ _ _ (by omega) q5⟩
 ·rintro k h1 ⟨q1,q2,q3,q4,q5⟩;exact bA q4 rfl
 ·exact ⟨gH.trans (g4 _),(g4 _).at_ _ _ aX,(g4 _).at_ _ _ aY,a6 _,a7 _⟩
 ·rintro k xs hget h1 hl1 ⟨q1,q2,q3,q4,q5⟩;rw [m3] at hl1;have ab9:=Zp hget;obtain ⟨hkl,d,ed,exs⟩:=ab9;subst exs;clear hget;have hdb:d < m.base:=by rw [← ed]; exact CZ hb.1 n _ (List.getElem_mem hkl)
  have hrs:=hm.run hs (w:=(dg m.base n).take k) fun x hx=>CZ hb.1 n x (List.mem_of_mem_take hx);have hrn:m.run s ((dg m.base n).take (k + 1)) = m.nx (m.run s ((dg m.base n).take k)) d:=by
   rw [List.take_succ_eq_append_getElem hkl,ed,O7]
  rw [hrn];have hext:∃ t,m.run s ((dg m.base n).take k) = t:=⟨_,rfl⟩;obtain ⟨t,et⟩:=hext;rw [et] at hrs q3 ⊢;conv=>whnf
  refine XJ (eB m3.symm hl1) ?_;intro BO hb2 eBO hbl hbk;rw [m3] at hbk;have g2:=hbk.grows q1 (by omega);have aX2:=hbk.at_ _ _ (by omega) q2;have aY2:=hbk.at_ _ _ (by omega) q3;have aB2:=hbk.at_ _ _ (by omega) q4;have aC2:=hbk.at_ _ _ (by omega) q5;have k2:=hcx hb2 h.next 25 g2 aX2;have c2:=k2.c2;have hnx:=k2.kR hm hrs hdb;obtain ⟨r,o,sp,r',o',sp',c',rfl,hsp,hc1,Vd,hc2⟩:=hnx;have aeG:=hm.vC;have hend:∀ o,(hb2.set (h.next + 1) o).at (H.next + 3) = some BO:=fun o=>by rw [Hp.cu _ (by omega)]; exact eB m3 hbl
  have cY:cellAt hb2 (h.next + 1) 0 = some (int t):=bA aY2 rfl;conv=>whnf
  refine ⟨_,c2,?_⟩;conv=>whnf
  refine ⟨_,cY,?_⟩;conv=>whnf
  refine ⟨hsp,⟨by omega,by omega⟩,?_⟩;conv=>whnf
  refine ⟨_,hc1,?_⟩;conv=>whnf
  refine ⟨Vd,⟨by omega,by omega⟩,?_⟩;conv=>whnf
  refine ⟨_,hc2,?_⟩;conv=>whnf
  refine ⟨rfl,_,bE (vs:=[int (m.nx t d)]) aY2 rfl rfl rfl,?_⟩;conv=>whnf
  refine UZ eBO (eB m3.symm (hend _)) ?_;intro h9 hr9 hk9;rw [m3] at hk9;refine .inl ⟨rfl,hr9,⟨hk9.grows (g2.bQ _ (by omega)) (by omega),hk9.at_ _ _ (by omega) (by rw [Hp.cu _ (by omega)]; exact aX2),hk9.at_ _ _ (by omega) (Hp.bB _ (Hp.aU aY2)),hk9.at_ _ _ (by omega) (by rw [Hp.cu _ (by omega)]; exact aB2),hk9.at_ _ _ (by omega) (by rw [Hp.cu _ (by omega)]; exact aC2)⟩,fun ob hob=>?_⟩;exact hk9.at_ _ _ (by omega) (by rw [Hp.cu _ (by omega)]; exact hbk.at_ _ _ (by omega) hob)
 ·rintro h2 h3 ⟨q1,q2,q3,q4,q5⟩ hkp;rw [hdl,List.take_length] at q3;rw [m3] at hkp;exact ⟨(),⟨rfl,rfl,trivial⟩,⟨hkp.at_ _ _ (by omega) (eB (by omega) q5),hkp.grows q1 (by omega),hkp.at_ _ _ (by omega) q2,hkp.at_ _ _ (by omega) q3⟩,congrArg (fun k=>[k]) (show (((H.lay (.row 2 true [int n])).lay (.row 3 true [int m.base]))).next = h.next + 4 by rw [m2,nH])⟩
 ·intro h2 hF;exact hF.elim
end
end Go.Proofs.Ytedneplaibmppaa
