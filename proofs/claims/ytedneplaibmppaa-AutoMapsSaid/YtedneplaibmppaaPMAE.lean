/- Contracts of the functions that PMAH comes to. -/
import Derived.Test.YtedneplaibmppaaPMAD
import Derived.Test.YtedneplaibmppaaAAwake
import Derived.Test.YtedneplaibmppaaWx19
import Derived.Test.YtedneplaibmppaaWx22
import Derived.Test.YtedneplaibmppaaWx23
set_option maxRecDepth 100000
set_option maxHeartbeats 2000000
set_option linter.unusedVariables false
set_option linter.unusedSectionVars false
set_option linter.unusedSimpArgs false
namespace Go.Proofs.Ytedneplaibmppaa
open Go.Rx Go.RowKit
def kM (L f n:Nat):Nat:=if n < f then n else f + (n - f) % (L - f)
theorem IL {L f n:Nat}(h:f < L):kM L f n < L:=by
 unfold kM;split
 ·omega
 ·have:=Nat.mod_lt (n - f) (show L - f > 0 by omega);omega
def nextR (L f b:Nat)(p:Int×Int)(d:Nat):Int×Int:=((kM L f (p.1.toNat * b):Nat),(kM L f (p.2.toNat + p.1.toNat * d):Nat))
def RG (l:List Int)(p:Int×Int):Int:=gl l p.2.toNat
noncomputable def Ay (b:Nat) (l:List Int) (f:Nat):Mac:=built b (((kM l.length f 1:Nat):Int),(0:Int)) (RG l) (nextR l.length f b)
theorem Pz {L f b:Nat}(h:f < L):wR (nextR L f b) b (sq L L):=⟨fun p hp d hd=>by
 refine ko.2 ?_;have h1:=IL (n:=p.1.toNat * b) h;have h2:=IL (n:=p.2.toNat + p.1.toNat * d) h;unfold nextR;dsimp only;omega⟩
theorem PD {L f:Nat}(h:f < L):(((kM L f 1:Nat):Int),(0:Int)) ∈ sq L L:=ko.2 (by have:=IL (n:=1) h; dsimp only; omega)
theorem ZM {b:Nat}(hb:1≤b){l:List Int}{f:Nat}(h:f < l.length):(Ay b l f).Ok∧(Ay b l f).out.length≤l.length * l.length:=by
 have:=Dt (Pz (b:=b) h) (PD h) (RG l) hb;rw [yZ] at this;exact this
def rv (a:Option Addr)(n:Nat)(f:Nat):Value:=.agg ⟨[.slice a n n,int f]⟩
def MI (base:Int)(a b:List Int):Prop:=base < 2∨5 < base∨20 < a.length∨b.length < 1∨20 < b.length∨(¬ ∀ x ∈ a,0≤x∧x≤9)∨(¬ ∀ x ∈ b,0≤x∧x≤9)
theorem IQ (a:Option Addr)(l c:Nat)(n:Int):fD 4 (.agg ⟨[.slice a l c,int n]⟩) (.agg ⟨[.slice a l c,int n]⟩) = true:=by
 simp [fD,Py]
theorem RH (g a b:Nat):fD 4 (.func (.func g) ⟨[]⟩ ⟨[ptr a b]⟩) (.func (.func g) ⟨[]⟩ ⟨[ptr a b]⟩) = true:=by
 simp [fD,ptr]
theorem RI (g a b c d:Nat):fD 4 (.func (.func g) ⟨[]⟩ ⟨[ptr a b,ptr c d]⟩) (.func (.func g) ⟨[]⟩ ⟨[ptr a b,ptr c d]⟩) = true:=by
 simp [fD,ptr]
attribute [local irreducible] E iJ cellAt bJ storeAt callable dh dG dO findKey dZ bP Hp.at Hp.set Hp.lay dL cO setAt aJ dx bO dz Rnd gq fB gY Int.tmod Int.tdiv Int.fdiv
section
variable [bC]
attribute [local irreducible] sameAt j6
theorem RJ (h:Hp):aJ E 22 [] h (fun r h'=>jY h h' r ⟨2,[0,1],[[0,1],[1,0]]⟩∧aA h h'):=by
 refine enter22 (by simp) ?_;conv=>whnf
 refine aC.cut (α:=Hp) (fun _=>[(0,ptr h.next 0)]) (fun x H=>x = H∧aA h H∧H.at h.next = some (.row 25 true [int 0,aN,aN])∧H.next = h.next + 1) ?_ ?_
 ·conv=>whnf
  exact ⟨_,⟨rfl,trivial⟩,⟨rfl,aA.lay _ _,Hp.ak _ _,Hp.bF _ _⟩,rfl⟩
 rintro H φ1 _ ⟨rfl,gH,aR,nH⟩;have n1:(H.lay (.row 3 true [int 0,int 1])).next = H.next + 1:=Hp.bF _ _;have n2:((H.lay (.row 3 true [int 0,int 1])).lay (.row 3 true [int 0,int 1])).next = H.next + 2:=by rw [Hp.bF,n1]
 have n3:(((H.lay (.row 3 true [int 0,int 1])).lay (.row 3 true [int 0,int 1])).lay (.row 3 true [int 1,int 0])).next = H.next + 3:=by rw [Hp.bF,n2]
 have g4:aA H ((((H.lay (.row 3 true [int 0,int 1])).lay (.row 3 true [int 0,int 1])).lay (.row 3 true [int 1,int 0])).lay (.row 22 true [slc (H.lay (.row 3 true [int 0,int 1])).next 0 2 2,slc ((H.lay (.row 3 true [int 0,int 1])).lay (.row 3 true [int 0,int 1])).next 0 2 2])):=(((aA.lay _ _).bH _).bH _).bH _;have b1:((((H.lay (.row 3 true [int 0,int 1])).lay (.row 3 true [int 0,int 1])).lay (.row 3 true [int 1,int 0])).lay (.row 22 true [slc (H.lay (.row 3 true [int 0,int 1])).next 0 2 2,slc ((H.lay (.row 3 true [int 0,int 1])).lay (.row 3 true [int 0,int 1])).next 0 2 2])).at H.next = some (.row 3 true [int 0,int 1]):=Hp.bg _ (Hp.bg _ (Hp.bg _ (Hp.ak _ _)));have b2:((((H.lay (.row 3 true [int 0,int 1])).lay (.row 3 true [int 0,int 1])).lay (.row 3 true [int 1,int 0])).lay (.row 22 true [slc (H.lay (.row 3 true [int 0,int 1])).next 0 2 2,slc ((H.lay (.row 3 true [int 0,int 1])).lay (.row 3 true [int 0,int 1])).next 0 2 2])).at (H.lay (.row 3 true [int 0,int 1])).next = some (.row 3 true [int 0,int 1]):=Hp.bg _ (Hp.bg _ (Hp.ak _ _));have b3:((((H.lay (.row 3 true [int 0,int 1])).lay (.row 3 true [int 0,int 1])).lay (.row 3 true [int 1,int 0])).lay (.row 22 true [slc (H.lay (.row 3 true [int 0,int 1])).next 0 2 2,slc ((H.lay (.row 3 true [int 0,int 1])).lay (.row 3 true [int 0,int 1])).next 0 2 2])).at ((H.lay (.row 3 true [int 0,int 1])).lay (.row 3 true [int 0,int 1])).next = some (.row 3 true [int 1,int 0]):=Hp.bg _ (Hp.ak _ _);have b4:((((H.lay (.row 3 true [int 0,int 1])).lay (.row 3 true [int 0,int 1])).lay (.row 3 true [int 1,int 0])).lay (.row 22 true [slc (H.lay (.row 3 true [int 0,int 1])).next 0 2 2,slc ((H.lay (.row 3 true [int 0,int 1])).lay (.row 3 true [int 0,int 1])).next 0 2 2])).at (((H.lay (.row 3 true [int 0,int 1])).lay (.row 3 true [int 0,int 1])).lay (.row 3 true [int 1,int 0])).next = some (.row 22 true [slc (H.lay (.row 3 true [int 0,int 1])).next 0 2 2,slc ((H.lay (.row 3 true [int 0,int 1])).lay (.row 3 true [int 0,int 1])).next 0 2 2]):=Hp.ak _ _;have aR4:=g4.at_ _ _ aR;conv=>whnf
 refine aC.go ?_;conv=>whnf
 refine ⟨rfl,_,bE (vs:=[int 2,slc H.next 0 2 2,slc (((H.lay (.row 3 true [int 0,int 1])).lay (.row 3 true [int 0,int 1])).lay (.row 3 true [int 1,int 0])).next 0 2 2]) aR4 rfl rfl rfl,?_⟩;conv=>whnf
 obtain ⟨i25,t25,jl,jm⟩:=C8;refine fu (r:=h.next) (o:=0) (cs:=[int 2,slc H.next 0 2 2,slc (((H.lay (.row 3 true [int 0,int 1])).lay (.row 3 true [int 0,int 1])).lay (.row 3 true [int 1,int 0])).next 0 2 2]) rfl t25 jl ?_ ?_
 ·rw [jm];exact aI (Hp.bB _ (Hp.aU aR4)) rfl
 ·refine ⟨⟨_,_,[slc (H.lay (.row 3 true [int 0,int 1])).next 0 2 2,slc ((H.lay (.row 3 true [int 0,int 1])).lay (.row 3 true [int 0,int 1])).next 0 2 2],rfl,⟨rfl,.inr ⟨H.next,rfl,by omega,true,by rw [Hp.cu _ (by omega)]; exact b1⟩⟩,⟨rfl,.inr ⟨_,rfl,by omega,true,by rw [Hp.cu _ (by omega)]; exact b4⟩⟩,rfl,fun k u l h1 h2=>?_⟩,(gH.trans g4).bQ _ (by omega)⟩
  match k,h1,h2 with
  | 0,h1,h2=>cases h1; cases h2; exact .inr ⟨_,rfl,by omega,true,by rw [Hp.cu _ (by omega)]; exact b2⟩
  | 1,h1,h2=>cases h1; cases h2; exact .inr ⟨_,rfl,by omega,true,by rw [Hp.cu _ (by omega)]; exact b3⟩
  | k + 2,h1,h2=>simp at h1
theorem E5 (h:Hp):aJ E 60 [] h (fun r h'=>jY h h' r ⟨2,[0,1],[[0,1],[1,0]]⟩∧aA h h'):=by
 refine enter60 (by simp) ?_;conv=>whnf
 refine aC.cut (α:=Hp) (fun _=>[(0,ptr h.next 0)]) (fun x H=>x = H∧aA h H∧H.at h.next = some (.row 26 true [int 0,aN,aN])∧H.next = h.next + 1) ?_ ?_
 ·conv=>whnf
  exact ⟨_,⟨rfl,trivial⟩,⟨rfl,aA.lay _ _,Hp.ak _ _,Hp.bF _ _⟩,rfl⟩
 rintro H φ1 _ ⟨rfl,gH,aR,nH⟩;have n1:(H.lay (.row 3 true [int 0,int 1])).next = H.next + 1:=Hp.bF _ _;have n2:((H.lay (.row 3 true [int 0,int 1])).lay (.row 3 true [int 0,int 1])).next = H.next + 2:=by rw [Hp.bF,n1]
 have n3:(((H.lay (.row 3 true [int 0,int 1])).lay (.row 3 true [int 0,int 1])).lay (.row 3 true [int 1,int 0])).next = H.next + 3:=by rw [Hp.bF,n2]
 have g4:aA H ((((H.lay (.row 3 true [int 0,int 1])).lay (.row 3 true [int 0,int 1])).lay (.row 3 true [int 1,int 0])).lay (.row 22 true [slc (H.lay (.row 3 true [int 0,int 1])).next 0 2 2,slc ((H.lay (.row 3 true [int 0,int 1])).lay (.row 3 true [int 0,int 1])).next 0 2 2])):=(((aA.lay _ _).bH _).bH _).bH _;have b1:((((H.lay (.row 3 true [int 0,int 1])).lay (.row 3 true [int 0,int 1])).lay (.row 3 true [int 1,int 0])).lay (.row 22 true [slc (H.lay (.row 3 true [int 0,int 1])).next 0 2 2,slc ((H.lay (.row 3 true [int 0,int 1])).lay (.row 3 true [int 0,int 1])).next 0 2 2])).at H.next = some (.row 3 true [int 0,int 1]):=Hp.bg _ (Hp.bg _ (Hp.bg _ (Hp.ak _ _)));have b2:((((H.lay (.row 3 true [int 0,int 1])).lay (.row 3 true [int 0,int 1])).lay (.row 3 true [int 1,int 0])).lay (.row 22 true [slc (H.lay (.row 3 true [int 0,int 1])).next 0 2 2,slc ((H.lay (.row 3 true [int 0,int 1])).lay (.row 3 true [int 0,int 1])).next 0 2 2])).at (H.lay (.row 3 true [int 0,int 1])).next = some (.row 3 true [int 0,int 1]):=Hp.bg _ (Hp.bg _ (Hp.ak _ _));have b3:((((H.lay (.row 3 true [int 0,int 1])).lay (.row 3 true [int 0,int 1])).lay (.row 3 true [int 1,int 0])).lay (.row 22 true [slc (H.lay (.row 3 true [int 0,int 1])).next 0 2 2,slc ((H.lay (.row 3 true [int 0,int 1])).lay (.row 3 true [int 0,int 1])).next 0 2 2])).at ((H.lay (.row 3 true [int 0,int 1])).lay (.row 3 true [int 0,int 1])).next = some (.row 3 true [int 1,int 0]):=Hp.bg _ (Hp.ak _ _);have b4:((((H.lay (.row 3 true [int 0,int 1])).lay (.row 3 true [int 0,int 1])).lay (.row 3 true [int 1,int 0])).lay (.row 22 true [slc (H.lay (.row 3 true [int 0,int 1])).next 0 2 2,slc ((H.lay (.row 3 true [int 0,int 1])).lay (.row 3 true [int 0,int 1])).next 0 2 2])).at (((H.lay (.row 3 true [int 0,int 1])).lay (.row 3 true [int 0,int 1])).lay (.row 3 true [int 1,int 0])).next = some (.row 22 true [slc (H.lay (.row 3 true [int 0,int 1])).next 0 2 2,slc ((H.lay (.row 3 true [int 0,int 1])).lay (.row 3 true [int 0,int 1])).next 0 2 2]):=Hp.ak _ _;have aR4:=g4.at_ _ _ aR;conv=>whnf
 refine aC.go ?_;conv=>whnf
 refine ⟨rfl,_,bE (vs:=[int 2,slc H.next 0 2 2,slc (((H.lay (.row 3 true [int 0,int 1])).lay (.row 3 true [int 0,int 1])).lay (.row 3 true [int 1,int 0])).next 0 2 2]) aR4 rfl rfl rfl,?_⟩;conv=>whnf
 obtain ⟨i25,t25,jl,jm⟩:=U9;refine fu (r:=h.next) (o:=0) (cs:=[int 2,slc H.next 0 2 2,slc (((H.lay (.row 3 true [int 0,int 1])).lay (.row 3 true [int 0,int 1])).lay (.row 3 true [int 1,int 0])).next 0 2 2]) rfl t25 jl ?_ ?_
 ·rw [jm];exact aI (Hp.bB _ (Hp.aU aR4)) rfl
 ·refine ⟨⟨_,_,[slc (H.lay (.row 3 true [int 0,int 1])).next 0 2 2,slc ((H.lay (.row 3 true [int 0,int 1])).lay (.row 3 true [int 0,int 1])).next 0 2 2],rfl,⟨rfl,.inr ⟨H.next,rfl,by omega,true,by rw [Hp.cu _ (by omega)]; exact b1⟩⟩,⟨rfl,.inr ⟨_,rfl,by omega,true,by rw [Hp.cu _ (by omega)]; exact b4⟩⟩,rfl,fun k u l h1 h2=>?_⟩,(gH.trans g4).bQ _ (by omega)⟩
  match k,h1,h2 with
  | 0,h1,h2=>cases h1; cases h2; exact .inr ⟨_,rfl,by omega,true,by rw [Hp.cu _ (by omega)]; exact b2⟩
  | 1,h1,h2=>cases h1; cases h2; exact .inr ⟨_,rfl,by omega,true,by rw [Hp.cu _ (by omega)]; exact b3⟩
  | k + 2,h1,h2=>simp at h1
end
section
variable [bC]
attribute [local irreducible] sameAt
theorem PE (r:Nat)(x:Bool)(va vb:Value)(a b:List Int)(h:Hp)(hr:h.at r = some (.row 22 x [va,vb]))(ha:View h va a)(hb:View h vb b)(hla:a.length≤100)(hlb:b.length≤100):aJ E 84 [slc r 0 2 2] h (fun w h'=>Built h h' 3 w (a ++ b)∧aA h h'):=by
 obtain ⟨aa,ca,rfl⟩:=ha.known;obtain ⟨ab,cb,rfl⟩:=hb.known;refine enter84 (by simp) ?_;conv=>whnf
 refine aC.go ?_;conv=>whnf
 refine aC.go ?_;conv=>whnf
 refine aC.cut (α:=Value×Hp) (fun s=>[(3,s.1)]) (fun s H=>s.2 = H∧aA h s.2∧Built h s.2 3 s.1 (a ++ b)) ?_ ?_;rotate_left
 ·rintro ⟨w,H⟩ φ1 _ ⟨rfl,g1,hw⟩;dsimp only at g1 hw ⊢;have hws:=hw.c.slice;obtain ⟨aw,rfl,-⟩:=hws;conv=>whnf
  repeat (refine aC.go ?_; conv=>whnf)
  exact ⟨hw,g1⟩
 conv=>whnf
 refine aC.go ?_;conv=>whnf
 refine bT (α:=Nat×Value×Hp) (fun s=>[(8,int s.1),(7,int 2),(6,slc r 0 2 2),(3,s.2.1)]) (fun s=>s.2.2) (fun s=>aA h s.2.2∧(s.1 = 0∧Built h s.2.2 3 s.2.1 []∨s.1 = 1∧Built h s.2.2 3 s.2.1 a∨s.1 = 2∧Built h s.2.2 3 s.2.1 (a ++ b))) (fun s=>2 - s.1) (0,aN,h) ⟨.refl _,.inl ⟨rfl,.inl ⟨rfl,rfl⟩⟩⟩ ⟨rfl,rfl,rfl,rfl,trivial⟩ (Hp.Le.refl _) ?_;rintro ⟨k,w,H⟩ φ1 ⟨g1,hcase⟩;dsimp only at g1 hcase ⊢;have hrH:=g1.at_ _ _ hr;rcases hcase with ⟨rfl,hw⟩ | ⟨rfl,hw⟩ | ⟨rfl,hw⟩
 ·have c0:cellAt H r (gU 0 0 1) = some (.slice aa a.length ca):=jX hrH rfl;conv=>whnf
  repeat (refine aC.go ?_; conv=>whnf)
  refine mO (by omega) ?_;conv=>whnf
  repeat (refine aC.go ?_; conv=>whnf)
  refine ⟨rfl,⟨by omega,by omega⟩,?_⟩;conv=>whnf
  refine ⟨_,c0,?_⟩;conv=>whnf
  repeat (refine aC.go ?_; conv=>whnf)
  refine fB.ints hw g1 (ha.ext g1).elems (by simp; omega) ?_;intro v' H' hb' hg' _;conv=>whnf
  refine ⟨_,wid (by omega),?_⟩;conv=>whnf
  exact Rnd.mk (1,v',H') ⟨hg',.inr (.inl ⟨rfl,by rw [List.nil_append] at hb'; exact hb'⟩)⟩ (by show 2 - 1 < 2 - 0; omega) ⟨rfl,rfl,rfl,rfl,trivial⟩ (Hp.Le.refl _) rfl
 ·have c0:cellAt H r (gU 0 1 1) = some (.slice ab b.length cb):=jX hrH rfl;conv=>whnf
  repeat (refine aC.go ?_; conv=>whnf)
  refine mO (by omega) ?_;conv=>whnf
  repeat (refine aC.go ?_; conv=>whnf)
  refine ⟨rfl,⟨by omega,by omega⟩,?_⟩;conv=>whnf
  refine ⟨_,c0,?_⟩;conv=>whnf
  repeat (refine aC.go ?_; conv=>whnf)
  refine fB.ints hw g1 (hb.ext g1).elems (by omega) ?_;intro v' H' hb' hg' _;conv=>whnf
  refine ⟨_,wid (by omega),?_⟩;conv=>whnf
  exact Rnd.mk (2,v',H') ⟨hg',.inr (.inr ⟨rfl,hb'⟩)⟩ (by show 2 - 2 < 2 - 1; omega) ⟨rfl,rfl,rfl,rfl,trivial⟩ (Hp.Le.refl _) rfl
 ·conv=>whnf
  repeat (refine aC.go ?_; conv=>whnf)
  refine Ag (by omega) ?_;conv=>whnf
  exact ⟨(w,H),⟨rfl,trivial⟩,⟨rfl,g1,hw⟩,rfl⟩
theorem zh (al:Option Addr)(L f n:Nat)(h:Hp)(hf:f < L)(hL:L≤100)(hn:n≤100000):aJ E 102 [rv al L f,int n] h (fun r h'=>r = int (kM L f n:Nat)∧aA h h'):=by
 have aX:(h.lay (.row 121 true [.slice al L L,int f])).at h.next = some (.row 121 true [.slice al L L,int f]):=Hp.ak _ _;have c0:cellAt (h.lay (.row 121 true [.slice al L L,int f])) h.next 0 = some (.slice al L L):=bA aX rfl;have c1:cellAt (h.lay (.row 121 true [.slice al L L,int f])) h.next 1 = some (int f):=bA aX rfl;unfold rv;refine enter102 (by simp) ?_;conv=>whnf
 refine aC.go ?_;conv=>whnf
 refine aC.go ?_;conv=>whnf
 refine aC.go ?_;conv=>whnf
 refine ⟨_,c1,?_⟩;conv=>whnf
 by_cases hnf:n < f
 ·refine mO (by omega) ?_;conv=>whnf
  repeat (refine aC.go ?_; conv=>whnf)
  refine ⟨?_,aA.lay _ _⟩;show int n = _;unfold kM;rw [if_pos hnf]
 ·have em:=rG (n - f) (L - f);have hml:=Nat.mod_lt (n - f) (show L - f > 0 by omega);have RA:∃ r,(n - f) % (L - f) = r:=⟨_,rfl⟩;obtain ⟨r,er⟩:=RA;rw [er] at em hml;refine Ag (by omega) ?_;conv=>whnf
  repeat (refine aC.go ?_; conv=>whnf)
  refine ⟨_,c1,?_⟩;conv=>whnf
  refine ⟨_,c1,?_⟩;conv=>whnf
  refine ⟨((n - f:Nat):Int),wie (by omega) (by omega),?_⟩;conv=>whnf
  refine ⟨_,c0,?_⟩;conv=>whnf
  refine ⟨_,c1,?_⟩;conv=>whnf
  refine ⟨((L - f:Nat):Int),wie (by omega) (by omega),?_⟩;conv=>whnf
  refine ⟨by omega,?_⟩;conv=>whnf
  rw [em];refine ⟨((f + r:Nat):Int),wie (by omega) (by omega),?_⟩;conv=>whnf
  repeat (refine aC.go ?_; conv=>whnf)
  refine ⟨?_,aA.lay _ _⟩;show int (f + r:Nat) = _;unfold kM;rw [if_neg hnf,er]
end
end Go.Proofs.Ytedneplaibmppaa
namespace Go.Proofs.Ytedneplaibmppaa
open Go.Rx Go.RowKit
theorem PG {L:Nat}{p:Int×Int}(h:p ∈ sq L L):∃ s k:Nat,p = ((s:Int),(k:Int))∧s < L∧k < L:=by
 obtain ⟨a,b⟩:=p;have:=ko.1 h;dsimp only at this;exact ⟨a.toNat,b.toNat,by rw [Prod.mk.injEq]; omega,by omega,by omega⟩
attribute [local irreducible] E iJ cellAt bJ storeAt callable dh dG dO findKey dZ bP Hp.at Hp.set Hp.lay dL cO setAt aJ dx bO dz Rnd gq fB gY Int.tmod Int.tdiv Int.fdiv
section
variable [bC]
attribute [local irreducible] sameAt j6
theorem RL (p:Int×Int)(Rg:Nat)(al:Option Addr)(l:List Int)(f:Nat)(H:Hp)(hp:p ∈ sq l.length l.length)(aR:H.at Rg = some (.row 121 true [.slice al l.length l.length,int f]))(hl:View H (.slice al l.length l.length) l):aJ E 100 [dB p,ptr Rg 0] H (fun r H'=>r = int (RG l p)∧aA H H'):=by
 obtain ⟨s,k,rfl,hs,hk⟩:=PG hp;have aP:(H.lay (.row 147 true [int s,int k])).at H.next = some (.row 147 true [int s,int k]):=Hp.ak _ _;have g1:aA H (H.lay (.row 147 true [int s,int k])):=aA.lay _ _;have aR1:=g1.at_ _ _ aR;have hc:=View.iI (hl.ext g1) hk;obtain ⟨r,o,sp,rfl,hsp,-,hc⟩:=hc;unfold dB;refine enter100 (by simp) ?_;conv=>whnf
 refine aC.go ?_;conv=>whnf
 refine aC.go ?_;conv=>whnf
 refine ⟨_,bA aR1 rfl,?_⟩;conv=>whnf
 refine ⟨_,bA aP rfl,?_⟩;conv=>whnf
 refine ⟨hsp,⟨by omega,by omega⟩,?_⟩;conv=>whnf
 refine ⟨_,hc,?_⟩;conv=>whnf
 exact u7 rfl rfl ⟨by unfold RG; rw [Int.toNat_natCast]; rfl,g1⟩
theorem RN (p:Int×Int)(d:Nat)(Rg B:Nat)(al:Option Addr)(L f b:Nat)(H:Hp)(hp:p ∈ sq L L)(hf:f < L)(hL:L≤100)(hb:b≤10)(hd:d < b)(aR:H.at Rg = some (.row 121 true [.slice al L L,int f]))(aB:cellAt H B 0 = some (int b)):aJ E 101 [dB p,int d,ptr Rg 0,ptr B 0] H (fun r H'=>r = dB (nextR L f b p d)∧aA H H'):=by
 obtain ⟨s,k,rfl,hs,hk⟩:=PG hp;have n1:(H.lay (.row 147 true [int s,int k])).next = H.next + 1:=Hp.bF _ _;have enx:nextR L f b ((s:Int),(k:Int)) d = (((kM L f (s * b):Nat):Int),((kM L f (k + s * d):Nat):Int)):=by
  unfold nextR;rw [Int.toNat_natCast,Int.toNat_natCast]
 rw [enx];have m1:s * b≤100 * 10:=Nat.mul_le_mul (by omega) hb;have m2:s * d≤100 * 10:=Nat.mul_le_mul (by omega) (by omega);have e1:(s:Int) * (b:Int) = ((s * b:Nat):Int):=by rw [Int.natCast_mul]
 have e2:(s:Int) * (d:Int) = ((s * d:Nat):Int):=by rw [Int.natCast_mul]
 have Yb:∃ u,s * b = u:=⟨_,rfl⟩;obtain ⟨u,eu⟩:=Yb;have abo:∃ v,s * d = v:=⟨_,rfl⟩;obtain ⟨v,ev⟩:=abo;rw [eu] at m1 e1 ⊢;rw [ev] at m2 e2 ⊢;unfold dB;refine enter101 (by simp) ?_;conv=>whnf
 refine aC.cut (α:=Hp) (fun _=>[(4,ptr H.next 0),(6,ptr (H.next + 1) 0),(1,int d),(2,ptr Rg 0),(3,ptr B 0)]) (fun x H2=>x = H2∧aA H x∧x.at H.next = some (.row 147 true [int s,int k])∧x.at (H.next + 1) = some (.row 147 true [int 0,int 0])) ?_ ?_
 ·conv=>whnf
  exact ⟨_,⟨rfl,congrArg (fun k=>ptr k 0) n1,rfl,rfl,rfl,trivial⟩,⟨rfl,(aA.lay _ _).bH _,Hp.bg _ (Hp.ak _ _),eB n1 (Hp.ak _ _)⟩,rfl⟩
 rintro H2 φ1 _ ⟨rfl,g2,aP,aO⟩;have cR:=aI (g2.at_ _ _ aR) (show [Value.slice al L L,int f].length = 2 from rfl);have cB:=g2.cell aB;have p0:cellAt H2 H.next 0 = some (int s):=bA aP rfl;have p1:cellAt H2 H.next 1 = some (int k):=bA aP rfl;have hsr:=IQ al L L f;conv=>whnf
 refine aC.go ?_;conv=>whnf
 refine ⟨_,cR,?_⟩;conv=>whnf
 refine ⟨_,p0,?_⟩;conv=>whnf
 refine ⟨_,cB,?_⟩;conv=>whnf
 refine ⟨(u:Int),wie e1 (by omega),?_⟩;conv=>whnf
 refine aJ.mono (zh al L f u _ hf hL (by omega)) ?_;rintro _ H3 ⟨rfl,g3⟩;have cR3:=g3.cells cR;have p03:=g3.cell p0;have p13:=g3.cell p1;conv=>whnf
 refine ⟨_,cR3,?_⟩;conv=>whnf
 refine ⟨_,p13,?_⟩;conv=>whnf
 refine ⟨_,p03,?_⟩;conv=>whnf
 refine ⟨(v:Int),wie e2 (by omega),?_⟩;conv=>whnf
 refine ⟨((k + v:Nat):Int),wie (by omega) (by omega),?_⟩;conv=>whnf
 refine aJ.mono (zh al L f (k + v) _ hf hL (by omega)) ?_;rintro _ H4 ⟨rfl,g4⟩;have cR4:=g4.cells cR3;have p04:=g4.cell p03;have p14:=g4.cell p13;have aO4:=g4.at_ _ _ (g3.at_ _ _ aO);conv=>whnf
 refine ⟨rfl,_,bE (vs:=[int (kM L f u:Nat),int (kM L f (k + v):Nat)]) aO4 rfl rfl rfl,?_⟩;have cR5:bJ (H4.set (H.next + 1) (.row 147 true [int (kM L f u:Nat),int (kM L f (k + v):Nat)])) Rg 0 2 = some [.slice al L L,int f]:=by
  refine aI (e:=121) (x:=true) ?_ rfl;have:=Hp.aU aR;rw [Hp.cu _ (by omega)];exact g4.at_ _ _ (g3.at_ _ _ (g2.at_ _ _ aR))
 have p05:cellAt (H4.set (H.next + 1) (.row 147 true [int (kM L f u:Nat),int (kM L f (k + v):Nat)])) H.next 0 = some (int s):=bA (by rw [Hp.cu _ (by omega)]; exact g4.at_ _ _ (g3.at_ _ _ aP)) rfl;have p15:cellAt (H4.set (H.next + 1) (.row 147 true [int (kM L f u:Nat),int (kM L f (k + v):Nat)])) H.next 1 = some (int k):=bA (by rw [Hp.cu _ (by omega)]; exact g4.at_ _ _ (g3.at_ _ _ aP)) rfl;conv=>whnf
 refine ⟨?_,?_⟩
 ·repeat' (first | exact True.intro | (refine And.intro ?_ ?_ <;> (conv=>whnf)))
  all_goals first
   | exact aj (h2:=_) rfl (aM _)
   | exact aj (h2:=_) rfl (bS _ _)
   | exact aj (h2:=_) (congrArg (fun x=>hval _ (dw x)) cR) hsr
   | exact aj (h2:=_) (congrArg (fun x=>hval _ (dw x)) cR3) hsr
   | exact aj (h2:=_) (congrArg (fun x=>hval _ (dw x)) cR4) hsr
   | exact aj (h2:=_) (congrArg (fun x=>hval _ (dw x)) cR5) hsr
   | exact aj (h2:=_) (congrArg (hval _) p0) (aM _)
   | exact aj (h2:=_) (congrArg (hval _) p1) (aM _)
   | exact aj (h2:=_) (congrArg (hval _) p03) (aM _)
   | exact aj (h2:=_) (congrArg (hval _) p13) (aM _)
   | exact aj (h2:=_) (congrArg (hval _) p04) (aM _)
   | exact aj (h2:=_) (congrArg (hval _) p14) (aM _)
   | exact aj (h2:=_) (congrArg (hval _) p05) (aM _)
   | exact aj (h2:=_) (congrArg (hval _) p15) (aM _)
   | exact aj (h2:=_) (show hval _ (arK .i64 .add _ _) = _ from Ad (by omega) (by omega)) (aM _)
   | exact aj (h2:=_) (show hval _ (arK .i64 .mul _ _) = _ from ZL e2 (by omega)) (aM _)
   | trace_state
 have hs:(jL Try.prog 147).isSome = true:=by kernel_rfl
 conv=>whnf
 refine fu (i:=(jL Try.prog 147).get hs) (r:=H.next + 1) (o:=0) (cs:=[int (kM L f u:Nat),int (kM L f (k + v):Nat)]) rfl (mP (by kernel_rfl) (Option.some_get hs).symm) (by kernel_rfl) ?_ ?_
 ·rw [show ((jL Try.prog 147).get hs).size = 2 from by kernel_rfl];exact aI (Hp.bB _ (Hp.aU aO4)) rfl
 ·exact ⟨rfl,((g2.trans g3).trans g4).bQ _ (by omega)⟩
theorem RO (al:Option Addr)(l:List Int)(f b:Nat)(h:Hp)(hf:f < l.length)(hL:l.length≤100)(hb:1≤b∧b≤10)(hl:View h (.slice al l.length l.length) l):aJ E 85 [rv al l.length f,int b] h (fun r h'=>jY h h' r (Ay b l f).i∧aA h h'):=by
 unfold rv;refine enter85 (by simp) ?_;conv=>whnf
 refine aC.cut (α:=Hp) (fun _=>[(2,ptr h.next 0),(3,ptr (h.next + 1) 0),(4,ptr (h.next + 2) 0)]) (fun x H=>x = H∧aA h x∧x.at h.next = some (.row 121 true [.slice al l.length l.length,int f])∧x.at (h.next + 1) = some (.row 3 true [int b])∧x.at (h.next + 2) = some (.row 25 true [int 0,aN,aN])) ?_ ?_
 ·conv=>whnf
  have n1:(h.lay (.row 121 true [.slice al l.length l.length,int f])).next = h.next + 1:=Hp.bF _ _;have n2:((h.lay (.row 121 true [.slice al l.length l.length,int f])).lay (.row 3 true [int b])).next = h.next + 2:=by rw [Hp.bF,n1]
  exact ⟨_,⟨rfl,congrArg (fun k=>ptr k 0) n1,congrArg (fun k=>ptr k 0) n2,trivial⟩,⟨rfl,((aA.lay _ _).bH _).bH _,Hp.bg _ (Hp.bg _ (Hp.ak _ _)),Hp.bg _ (eB n1 (Hp.ak _ _)),eB n2 (Hp.ak _ _)⟩,rfl⟩
 rintro H φ1 _ ⟨rfl,gH,aG,aB,aO⟩;have cB:cellAt H (h.next + 1) 0 = some (int b):=bA aB rfl;have cG:=aI aG (show [Value.slice al l.length l.length,int f].length = 2 from rfl);have hsr:=IQ al l.length l.length f;have hl2:l.length * l.length≤100 * 100:=Nat.mul_le_mul hL hL;conv=>whnf
 refine aC.go ?_;conv=>whnf
 refine aC.go ?_;conv=>whnf
 refine aC.go ?_;conv=>whnf
 refine ⟨_,cB,?_⟩;conv=>whnf
 refine ⟨_,cG,?_⟩;conv=>whnf
 refine aJ.mono (zh al l.length f 1 _ hf hL (by omega)) ?_;rintro _ H2 ⟨rfl,g2⟩;have cB2:=g2.cell cB;have cG2:=g2.cells cG;have aG2:=g2.at_ _ _ aG;have aO2:=g2.at_ _ _ aO;have gh2:=gH.trans g2;have ho:Ms 100 [ptr h.next 0] dB (RG l) (sq l.length l.length) H2:=⟨can100,fun p hp H5 g5=>RL p h.next al l f H5 hp (g5.at_ _ _ aG2) (hl.ext (gh2.trans g5))⟩;have hn:Di 101 [ptr h.next 0,ptr (h.next + 1) 0] dB (nextR l.length f b) b (sq l.length l.length) H2:=⟨can101,fun p hp d hd H5 g5=>RN p d h.next (h.next + 1) al l.length f b H5 hp hf hL hb.2 hd (g5.at_ _ _ aG2) (g5.cell cB2)⟩;have hbt:=JA b (((kM l.length f 1:Nat):Int),(0:Int)) (RG l) (nextR l.length f b) (sq l.length l.length) 100 101 _ _ H2 ⟨hb.1,by omega⟩ (Pz hf) (PD hf) (by rw [yZ]; omega) ho hn;conv=>whnf
 refine aJ.mono hbt ?_;rintro w5 H5 ⟨hown,g5⟩;have ME:∃ m',built b (((kM l.length f 1:Nat):Int),(0:Int)) (RG l) (nextR l.length f b) = m':=⟨_,rfl⟩;obtain ⟨m',em⟩:=ME;rw [em] at hown;have em':Ay b l f = m':=em;rw [em'];have hk5:=hown.known;obtain ⟨a5,b5,rfl⟩:=hk5;have aO5:=g5.at_ _ _ aO2;have cB5:=g5.cell cB2;have cG5:=g5.cells cG2;conv=>whnf
 refine ⟨rfl,_,bE (vs:=[int m'.i.base,.slice a5 m'.i.out.length m'.i.out.length,.slice b5 m'.i.next.length m'.i.next.length]) aO5 rfl rfl rfl,?_⟩;have cB6:∀ o,cellAt (H5.set (h.next + 2) o) (h.next + 1) 0 = some (int b):=fun o=>bA (by rw [Hp.cu _ (by omega)]; exact g5.at_ _ _ (g2.at_ _ _ aB)) rfl;have cG6:∀ o,bJ (H5.set (h.next + 2) o) h.next 0 2 = some [.slice al l.length l.length,int f]:=fun o=>aI (e:=121) (x:=true) (by rw [Hp.cu _ (by omega)]; exact g5.at_ _ _ aG2) rfl;conv=>whnf
 refine ⟨?_,?_⟩
 ·repeat' (first | exact True.intro | (refine And.intro ?_ ?_ <;> (conv=>whnf)))
  all_goals first
   | exact aj (h2:=_) rfl (aM _)
   | exact aj (h2:=_) rfl (bS _ _)
   | exact aj (h2:=_) rfl (RH _ _ _)
   | exact aj (h2:=_) rfl (RI _ _ _ _ _)
   | exact aj (h2:=_) rfl (ji _ _)
   | exact aj (h2:=_) (congrArg (fun x=>hval _ (dw x)) cG) hsr
   | exact aj (h2:=_) (congrArg (fun x=>hval _ (dw x)) cG2) hsr
   | exact aj (h2:=_) (congrArg (fun x=>hval _ (dw x)) cG5) hsr
   | exact aj (h2:=_) (congrArg (fun x=>hval _ (dw x)) (cG6 _)) hsr
   | exact aj (h2:=_) (congrArg (hval _) cB) (aM _)
   | exact aj (h2:=_) (congrArg (hval _) cB2) (aM _)
   | exact aj (h2:=_) (congrArg (hval _) cB5) (aM _)
   | exact aj (h2:=_) (congrArg (hval _) (cB6 _)) (aM _)
   | trace_state
 conv=>whnf
 obtain ⟨i25,t25,jl,jm⟩:=C8;refine fu (r:=h.next + 2) (o:=0) (cs:=[int m'.i.base,.slice a5 m'.i.out.length m'.i.out.length,.slice b5 m'.i.next.length m'.i.next.length]) rfl t25 jl ?_ ?_
 ·rw [jm];exact aI (Hp.bB _ (Hp.aU aO5)) rfl
 ·exact ⟨(hown.put (Hp.aU aO2) _).back gh2.next,(gh2.trans g5).bQ _ (by omega)⟩
end
end Go.Proofs.Ytedneplaibmppaa
namespace Go.Proofs.Ytedneplaibmppaa
open Go.Rx Go.RowKit
attribute [local irreducible] E iJ cellAt bJ storeAt callable dh dG dO findKey dZ bP Hp.at Hp.set Hp.lay dL cO setAt aJ dx bO dz Rnd gq fB gY Int.tmod Int.tdiv Int.fdiv
section
variable [bC]
attribute [local irreducible] sameAt j6
theorem RP (base:Int)(va vb:Value)(a b:List Int)(h:Hp)(ha:View h va a)(hb:View h vb b)(hla:a.length≤1000000)(hlb:b.length≤1000000):aJ E 50 [int base,va,vb] h (fun r h'=>((MI base a b→r = .tuple ⟨[noM,int 1]⟩)∧(¬ MI base a b→ql h h' r (Ay base.toNat (a ++ b) a.length)))∧aA h h'):=by
 obtain ⟨aa,ca,rfl⟩:=ha.known;obtain ⟨ab,cb,rfl⟩:=hb.known;obtain ⟨i25,t25,jl,jm⟩:=C8;refine enter50 (by simp) ?_;conv=>whnf
 refine aC.cut (α:=Hp) (fun _=>[(6,ptr h.next 0),(0,int base),(1,.slice aa a.length ca),(2,.slice ab b.length cb)]) (fun x H=>x = H∧aA h H∧H.at h.next = some (.row 25 true [int 0,aN,aN])) ?_ ?_
 ·conv=>whnf
  exact ⟨_,⟨rfl,rfl,rfl,rfl,trivial⟩,⟨rfl,aA.lay _ _,Hp.ak _ _⟩,rfl⟩
 rintro H φ1 _ ⟨rfl,gH,aR⟩;have bad:MI base a b→∀ H,aA h H→(((MI base a b→Value.tuple ⟨[noM,int 1]⟩ = .tuple ⟨[noM,int 1]⟩)∧(¬ MI base a b→ql h H (.tuple ⟨[noM,int 1]⟩) (Ay base.toNat (a ++ b) a.length)))∧aA h H):=fun k H g=>⟨⟨fun _=>rfl,fun q=>absurd k q⟩,g⟩;have Es:=Hp.aU aR;have hRg:=Hp.bB (.row 25 true [int 0,aN,aN]) Es;have gRg:aA h (H.set h.next (.row 25 true [int 0,aN,aN])):=gH.bQ _ (Nat.le_refl _);conv=>whnf
 refine aC.cut (α:=Unit) (fun _=>[(6,ptr h.next 0),(0,int base),(1,.slice aa a.length ca),(2,.slice ab b.length cb)]) (fun _ H3=>H = H3∧2≤base∧base≤5∧a.length≤20∧1≤b.length∧b.length≤20) ?_ ?_
 ·conv=>whnf
  refine aC.go ?_;conv=>whnf
  refine dJ (fun q1=>?_) (fun q1=>?_)
  ·skip
   conv=>whnf
   refine aC.go ?_;conv=>whnf
   refine ⟨rfl,_,bE (vs:=[int 0,aN,aN]) aR rfl rfl rfl,?_⟩;conv=>whnf
   exact dD (r:=h.next) (o:=0) (cs:=[int 0,aN,aN]) (w:=int 1) rfl rfl rfl t25 jl (by rw [jm]; exact aI hRg rfl) (bad (.inl q1) _ gRg)
  conv=>whnf
  refine dJ (fun q2=>?_) (fun q2=>?_)
  ·skip
   conv=>whnf
   refine aC.go ?_;conv=>whnf
   refine ⟨rfl,_,bE (vs:=[int 0,aN,aN]) aR rfl rfl rfl,?_⟩;conv=>whnf
   exact dD (r:=h.next) (o:=0) (cs:=[int 0,aN,aN]) (w:=int 1) rfl rfl rfl t25 jl (by rw [jm]; exact aI hRg rfl) (bad (.inr (.inl q2)) _ gRg)
  conv=>whnf
  refine dJ (fun q3=>?_) (fun q3=>?_)
  ·skip
   conv=>whnf
   refine aC.go ?_;conv=>whnf
   refine ⟨rfl,_,bE (vs:=[int 0,aN,aN]) aR rfl rfl rfl,?_⟩;conv=>whnf
   exact dD (r:=h.next) (o:=0) (cs:=[int 0,aN,aN]) (w:=int 1) rfl rfl rfl t25 jl (by rw [jm]; exact aI hRg rfl) (bad (.inr (.inr (.inl (by omega)))) _ gRg)
  conv=>whnf
  refine dJ (fun q4=>?_) (fun q4=>?_)
  ·skip
   conv=>whnf
   refine aC.go ?_;conv=>whnf
   refine ⟨rfl,_,bE (vs:=[int 0,aN,aN]) aR rfl rfl rfl,?_⟩;conv=>whnf
   exact dD (r:=h.next) (o:=0) (cs:=[int 0,aN,aN]) (w:=int 1) rfl rfl rfl t25 jl (by rw [jm]; exact aI hRg rfl) (bad (.inr (.inr (.inr (.inl (by omega))))) _ gRg)
  conv=>whnf
  refine dJ (fun q5=>?_) (fun q5=>?_)
  ·skip
   conv=>whnf
   refine aC.go ?_;conv=>whnf
   refine ⟨rfl,_,bE (vs:=[int 0,aN,aN]) aR rfl rfl rfl,?_⟩;conv=>whnf
   exact dD (r:=h.next) (o:=0) (cs:=[int 0,aN,aN]) (w:=int 1) rfl rfl rfl t25 jl (by rw [jm]; exact aI hRg rfl) (bad (.inr (.inr (.inr (.inr (.inl (by omega)))))) _ gRg)
  conv=>whnf
  exact ⟨(),⟨rfl,rfl,rfl,rfl,trivial⟩,⟨rfl,by omega,by omega,by omega,by omega,by omega⟩,rfl⟩
 rintro _ φ2 _ ⟨rfl,hb2,hb5,hal,aeU,hbl⟩;conv=>whnf
 refine aC.cut (α:=Unit) (fun _=>[(6,ptr h.next 0),(0,int base),(1,.slice aa a.length ca),(2,.slice ab b.length cb)]) (fun _ H3=>H = H3∧(∀ x ∈ a,0≤x∧x≤9)∧∀ x ∈ b,0≤x∧x≤9) ?_ ?_
 ·conv=>whnf
  refine aC.go ?_;conv=>whnf
  refine aJ.mono (nP _ a _ (ha.ext gH) hla) ?_;rintro r _ ⟨⟨x,rfl,hx⟩,rfl⟩
  cases x with
  | false =>
   conv=>whnf
   refine aC.go ?_;conv=>whnf
   refine ⟨rfl,_,bE (vs:=[int 0,aN,aN]) aR rfl rfl rfl,?_⟩;conv=>whnf
   exact dD (r:=h.next) (o:=0) (cs:=[int 0,aN,aN]) (w:=int 1) rfl rfl rfl t25 jl (by rw [jm]; exact aI hRg rfl) (bad (.inr (.inr (.inr (.inr (.inr (.inl hx.f)))))) _ gRg)
  | true =>
   have hx1:=hx.t;conv=>whnf
   refine aJ.mono (nP _ b _ (hb.ext gH) hlb) ?_;rintro r _ ⟨⟨y,rfl,hy⟩,rfl⟩
   cases y with
   | false =>
    conv=>whnf
    refine aC.go ?_;conv=>whnf
    refine ⟨rfl,_,bE (vs:=[int 0,aN,aN]) aR rfl rfl rfl,?_⟩;conv=>whnf
    exact dD (r:=h.next) (o:=0) (cs:=[int 0,aN,aN]) (w:=int 1) rfl rfl rfl t25 jl (by rw [jm]; exact aI hRg rfl) (bad (.inr (.inr (.inr (.inr (.inr (.inr hy.f)))))) _ gRg)
   | true =>
    have hy1:=hy.t;conv=>whnf
    exact ⟨(),⟨rfl,rfl,rfl,rfl,trivial⟩,⟨rfl,hx1,hy1⟩,rfl⟩
 rintro _ φ3 _ ⟨rfl,hx1,hy1⟩;have hnb:¬ MI base a b:=fun k=>by
  unfold MI at k;rcases k with k | k | k | k | k | k | k
  ·omega
  ·omega
  ·omega
  ·omega
  ·omega
  ·exact k hx1
  ·exact k hy1
 have Ro:∃ k:Nat,base = k:=⟨base.toNat,by omega⟩;obtain ⟨k,rfl⟩:=Ro;rw [Int.toNat_natCast];have hlen:(a ++ b).length = a.length + b.length:=List.length_append;have hf:a.length < (a ++ b).length:=by omega
 have hro:=ZM (b:=k) (by omega) hf;have hmul:(a ++ b).length * (a ++ b).length≤40 * 40:=Nat.mul_le_mul (by omega) (by omega);conv=>whnf
 refine aC.cut (α:=Option Addr×Nat×Hp) (fun s=>[(8,ptr s.2.1 0),(6,ptr h.next 0),(0,int k)]) (fun s H4=>s.2.2 = H4∧aA H s.2.2∧s.2.2.at s.2.1 = some (.row 121 true [.slice s.1 (a ++ b).length (a ++ b).length,int a.length])∧View s.2.2 (.slice s.1 (a ++ b).length (a ++ b).length) (a ++ b)) ?_ ?_
 ·conv=>whnf
  have gl1:aA H (H.lay (.row 22 true [.slice aa a.length ca,.slice ab b.length cb])):=aA.lay _ _;refine aJ.mono (PE H.next true _ _ a b _ (Hp.ak _ _) (ha.ext (gH.trans gl1)) (hb.ext (gH.trans gl1)) (by omega) (by omega)) ?_;rintro w H4 ⟨hw,g4⟩;have hws:=hw.c.slice;obtain ⟨aw,rfl,-⟩:=hws;conv=>whnf
  refine ⟨rfl,_,bX (vs:=[.slice aw (a ++ b).length (a ++ b).length,int a.length]) rfl rfl rfl,?_⟩;conv=>whnf
  exact ⟨(aw,H4.next,_),⟨rfl,rfl,rfl,trivial⟩,⟨rfl,(gl1.trans g4).bH _,Hp.ak _ _,(hw.view).ext (aA.lay _ _)⟩,rfl⟩
 rintro ⟨aw,G,H4⟩ φ4 _ ⟨rfl,g4,aG,hvw⟩;dsimp only at g4 aG hvw ⊢;have gh4:=gH.trans g4;have aR4:=g4.at_ _ _ aR;conv=>whnf
 refine aC.go ?_;conv=>whnf
 refine ⟨_,aI aG rfl,?_⟩;conv=>whnf
 refine aJ.mono (RO aw (a ++ b) a.length k _ hf (by omega) (by omega) hvw) ?_;rintro w H5 ⟨hw,g5⟩;conv=>whnf
 refine aJ.mono (tF _ (Ay k (a ++ b) a.length) _ hw.mv hro.1 (by omega) (by show k≤1000; omega)) ?_;rintro r H6 ⟨hr,g6⟩;have hrk:=hr.known;obtain ⟨a4,b4,c4,e4,rfl,o1,o2,o3⟩:=hrk;have aR6:=g6.at_ _ _ (g5.at_ _ _ aR4);conv=>whnf
 refine ⟨rfl,_,bE (vs:=[a4,b4,c4]) aR6 rfl (ZF o1 o2 o3) rfl,?_⟩;conv=>whnf
 refine dD (r:=h.next) (o:=0) (cs:=[a4,b4,c4]) (w:=int e4) rfl rfl rfl t25 jl ?_ ?_
 ·rw [jm];exact aI (Hp.bB _ (Hp.aU aR6)) rfl
 ·have aeV:=Hp.aU aR4;exact ⟨⟨fun q=>absurd q hnb,fun _=>(hr.put (by have:=g5.next; omega) _).back (by have:=g5.next; have:=gh4.next; omega)⟩,((gh4.trans g5).trans g6).bQ _ (Nat.le_refl _)⟩
end
end Go.Proofs.Ytedneplaibmppaa
namespace Go.Proofs.Ytedneplaibmppaa
open Go.Rx
namespace Mac
def mh (m:Mac)(ls:List Int)(s:Nat):Nat→Int
 | 0=>-1
 | d + 1=>if gl ls (m.nx s d) < 0 then mh m ls s d else if mh m ls s d < 0∨gl ls (m.nx s d) * m.base + d < mh m ls s d then gl ls (m.nx s d) * m.base + d else mh m ls s d
def evK (m:Mac)(out:Int):Nat→List Int
 | 0=>m.out.map fun o=>if o = out then 0 else -1
 | k + 1=>(List.range m.out.length).map fun s=>m.mh (evK m out k) s m.base
def Lst (m:Mac)(out:Int)(P:List Nat→Prop)(v:Int):Prop:=(v = -1∧∀ w,¬ P w)∨∃ w,P w∧v = val m.base w∧∀ w',P w'→val m.base w≤val m.base w'
def Wk (m:Mac)(out:Int)(s k:Nat)(w:List Nat):Prop:=Wd m.base w∧w.length = k∧m.o (m.run s w) = out
theorem pE (m:Mac)(out:Int):∀ k,(m.evK out k).length = m.out.length
 | 0=>by simp [evK]
 | k + 1=>by simp [evK]
theorem Yi {m:Mac}{out:Int}{k s:Nat}(hs:s < m.out.length):gl (m.evK out (k + 1)) s = m.mh (m.evK out k) s m.base:=by
 rw [l9 (by rw [pE]; exact hs)];simp [evK]
theorem TA {m:Mac}{out:Int}{k s:Nat}(hm:m.Ok)(hs:s < m.out.length)(ih:∀ t,t < m.out.length→m.Lst out (m.Wk out t k) (gl (m.evK out k) t)):∀ d,d≤m.base→m.Lst out (fun w=>m.Wk out s (k + 1) w∧∃ c v,w = c :: v∧c < d) (m.mh (m.evK out k) s d)
 | 0,_=>.inl ⟨rfl,fun w ⟨_,c,v,_,h⟩=>Nat.not_lt_zero _ h⟩
 | d + 1,hd=>by
  have ihd:=TA hm hs ih d (by omega);have hn:=hm.lt s d hs (by omega);have iht:=ih _ hn;unfold mh;have IU:∀ w,(m.Wk out s (k + 1) w∧∃ c v,w = c :: v∧c < d + 1)→(m.Wk out s (k + 1) w∧∃ c v,w = c :: v∧c < d)∨∃ v,w = d :: v∧m.Wk out (m.nx s d) k v:=by
   rintro w ⟨⟨h1,h2,h3⟩,c,v,rfl,hc⟩;by_cases e:c = d
   ·subst e;exact .inr ⟨v,rfl,fun x hx=>h1 x (by simp [hx]),by simpa using h2,h3⟩
   ·exact .inl ⟨⟨h1,h2,h3⟩,c,v,rfl,by omega⟩
  have up:∀ v,m.Wk out (m.nx s d) k v→m.Wk out s (k + 1) (d :: v):=fun v ⟨h1,h2,h3⟩=>⟨Wd.cons (by omega) h1,by simp [h2],h3⟩;rcases iht with ⟨e1,hno⟩ | ⟨v,hv,e1,hmin⟩
  ·rw [if_pos (by rw [e1]; omega)];rcases ihd with ⟨e2,abt⟩ | ⟨w,⟨hw,c,u,ew,hc⟩,e2,TD⟩
   ·refine .inl ⟨e2,fun w h=>?_⟩;rcases IU w h with h2 | ⟨v,rfl,h2⟩
    ·exact abt w h2
    ·exact hno v h2
   ·refine .inr ⟨w,⟨hw,c,u,ew,by omega⟩,e2,fun w' h=>?_⟩;rcases IU w' h with h2 | ⟨v,rfl,h2⟩
    ·exact TD w' h2
    ·exact (hno v h2).elim
  ·have ev:gl (m.evK out k) (m.nx s d) * (m.base:Int) + d = (val m.base (d :: v):Nat):=by
    rw [e1];show _ = ((d + m.base * val m.base v:Nat):Int);rw [Int.natCast_add,Int.natCast_mul,Int.mul_comm];omega
   rw [if_neg (by rw [e1]; omega),ev];have Yj:∀ v',m.Wk out (m.nx s d) k v'→val m.base (d :: v)≤val m.base (d :: v'):=fun v' h=>by
    show d + m.base * val m.base v≤d + m.base * val m.base v';have:=Nat.mul_le_mul_left m.base (hmin v' h);omega
   rcases ihd with ⟨e2,abt⟩ | ⟨w,⟨hw,c,u,ew,hc⟩,e2,TD⟩
   ·rw [if_pos (.inl (by rw [e2]; omega))];refine .inr ⟨d :: v,⟨up v hv,d,v,rfl,by omega⟩,rfl,fun w' h=>?_⟩;rcases IU w' h with h2 | ⟨v',rfl,h2⟩
    ·exact (abt w' h2).elim
    ·exact Yj v' h2
   ·rw [e2];by_cases hlt:((val m.base (d :: v):Nat):Int) < (val m.base w:Nat)
    ·rw [if_pos (.inr hlt)];refine .inr ⟨d :: v,⟨up v hv,d,v,rfl,by omega⟩,rfl,fun w' h=>?_⟩;rcases IU w' h with h2 | ⟨v',rfl,h2⟩
     ·have:=TD w' h2; omega
     ·exact Yj v' h2
    ·rw [if_neg (by omega)];refine .inr ⟨w,⟨hw,c,u,ew,by omega⟩,rfl,fun w' h=>?_⟩;rcases IU w' h with h2 | ⟨v',rfl,h2⟩
     ·exact TD w' h2
     ·have:=Yj v' h2; omega
theorem Yk {m:Mac}(hm:m.Ok)(out:Int):∀ (k s:Nat),s < m.out.length→m.Lst out (m.Wk out s k) (gl (m.evK out k) s)
 | 0,s,hs=>by
  have e:gl (m.evK out 0) s = if m.o s = out then 0 else -1:=by
   rw [l9 (by rw [pE]; exact hs)];have e2:m.o s = m.out[s]:=l9 hs;simp [evK,e2]
  rw [e];by_cases h:m.o s = out
  ·rw [if_pos h];exact .inr ⟨[],⟨by simp [Wd],rfl,h⟩,rfl,fun w' _=>Nat.zero_le _⟩
  ·rw [if_neg h];refine .inl ⟨rfl,fun w ⟨_,h2,h3⟩=>?_⟩;have:w = []:=List.eq_nil_of_length_eq_zero h2;subst this;exact h h3
 | k + 1,s,hs=>by
  rw [Yi hs];have h:=TA hm hs (Yk hm out k) m.base (Nat.le_refl _);have acJ:∀ w,m.Wk out s (k + 1) w→∃ c v,w = c :: v∧c < m.base:=fun w ⟨h1,h2,_⟩=>by
   cases w with
   | nil=>simp at h2
   | cons c v=>exact ⟨c,v,rfl,h1 c (by simp)⟩
  rcases h with ⟨e,hno⟩ | ⟨w,⟨hw,_⟩,e,hmin⟩
  ·exact .inl ⟨e,fun w h=>hno w ⟨h,acJ w h⟩⟩
  ·exact .inr ⟨w,hw,e,fun w' h=>hmin w' ⟨h,acJ w' h⟩⟩
theorem abu {m:Mac}(hm:m.Ok)(out:Int){k s:Nat}(hs:s < m.out.length):-1≤gl (m.evK out k) s∧gl (m.evK out k) s < (m.base ^ k:Nat):=by
 rcases Yk hm out k s hs with ⟨e,_⟩ | ⟨w,⟨h1,h2,_⟩,e,_⟩
 ·rw [e];have:=Nat.pow_pos (n:=k) (show 0 < m.base from hm.b1);omega
 ·rw [e];have:=Mj hm.b1 h1;rw [h2] at this;omega
theorem Yl {b:Nat}(hb:2≤b){n k:Nat}(h:n < b ^ k):∃ w,Wd b w∧w.length = k∧val b w = n:=by
 induction k generalizing n with
 | zero=>exact ⟨[],by simp [Wd],rfl,by simp at h; subst h; rfl⟩
 | succ k ih =>
  have h2:n / b < b ^ k:=by
   rw [Nat.pow_succ,Nat.mul_comm] at h;exact Nat.div_lt_of_lt_mul h
  obtain ⟨w,h3,h4,h5⟩:=ih h2;refine ⟨(n % b) :: w,Wd.cons (Nat.mod_lt _ (by omega)) h3,by simp [h4],?_⟩;show n % b + b * val b w = n;rw [h5];exact Nat.mod_add_div n b
end Mac
end Go.Proofs.Ytedneplaibmppaa
namespace Go.Proofs.Ytedneplaibmppaa
open Go.Rx Go.RowKit
theorem MJ (ls:List Int)(i:Nat)(v:Int)(hi:i < ls.length)(j:Nat):gl (ls.set i v) j = if j = i then v else gl ls j:=by
 unfold gl;rw [List.getD_eq_getElem?_getD,List.getD_eq_getElem?_getD];by_cases h:j = i
 ·subst h;rw [if_pos rfl,List.getElem?_set_self hi];rfl
 ·rw [if_neg h,List.getElem?_set_ne (by omega)]
theorem Dv {a b:List Int}(hl:a.length = b.length)(h:∀ j,j < a.length→gl a j = gl b j):a = b:=by
 refine List.ext_getElem hl fun i h1 h2=>?_;have:=h i h1;rw [l9 h1,l9 h2] at this;exact this
theorem Kq (z:Int)(n:Nat):times [int z] n = (List.replicate n z).map int:=by
 rw [QT];unfold aa1;rw [List.map_replicate,List.map_const',List.length_range]
theorem zi {H:Hp}{r n:Nat}{e:TypeId}{ls:List Int}(a:H.at r = some (.row e true (ls.map int)))(hl:ls.length = n):View H (slc r 0 n n) ls:=by
 subst hl;exact Built.view (h0:=⟨0,H.raw⟩) (e:=e) (.inr ⟨r,rfl,Nat.zero_le _,true,a⟩)
theorem ad3 {b k:Nat}(hb:b≤5)(hk:k≤12):b ^ k≤300000000:=by
 have h1:b ^ k≤5 ^ k:=Nat.pow_le_pow_left hb k;have h2:5 ^ k≤5 ^ 12:=Nat.pow_le_pow_right (by omega) hk;have h3:5 ^ 12 = 244140625:=rfl;omega
attribute [local irreducible] E iJ cellAt bJ storeAt callable dh dG dO findKey dZ bP Hp.at Hp.set Hp.lay dL cO setAt aJ dx bO dz Rnd gq fB gY Int.tmod Int.tdiv Int.fdiv
section
variable [bC]
attribute [local irreducible] sameAt
theorem PI (v:Value)(al:Option Addr)(cl:Nat)(ls:List Int)(m:Mac)(s:Nat)(h:Hp)(hv:MV h v m.i)(hm:m.Ok)(hb:m.base≤5)(hl:m.out.length≤1000)(hs:s < m.out.length)(hlv:View h (.slice al ls.length cl) ls)(hll:ls.length = m.out.length)(hbd:∀ j,j < m.out.length→-1≤gl ls j∧gl ls j≤300000000):aJ E 98 [v,.slice al ls.length cl,int s] h (fun r h'=>r = int (m.mh ls s m.base)∧aA h h'):=by
 obtain ⟨bx,rfl,hbx⟩:=hv.box;obtain ⟨ao,an,co,cn,hcx⟩:=hbx.cx;have hb1:=hm.b1;have hil:=hm.vC;refine enter98 (by simp) ?_;conv=>whnf
 refine aC.cut (α:=Hp) (fun _=>[(6,int 0),(3,ptr h.next 0),(2,int s),(1,.slice al ls.length cl)]) (fun x H=>x = H∧aA h H∧H.at h.next = some (.row 25 true bx)) ?_ ?_
 ·conv=>whnf
  exact ⟨_,⟨rfl,rfl,rfl,rfl,trivial⟩,⟨rfl,aA.lay _ _,Hp.ak _ _⟩,rfl⟩
 rintro H φ1 _ ⟨rfl,gH,aX⟩;have kx:=hcx H h.next 25 gH aX;have c0:cellAt H h.next 0 = some (int (m.base:Int)):=kx.c0;have c2:=kx.c2;have hvH:=hlv.ext gH;conv=>whnf
 refine aC.go ?_;conv=>whnf
 refine aC.cut (α:=Unit) (fun _=>[(7,int (m.mh ls s m.base)),(6,int 0)]) (fun _ H2=>H = H2) ?_ ?_;rotate_left
 ·rintro _ φ2 _ rfl;conv=>whnf
  repeat (refine aC.go ?_; conv=>whnf)
  exact ⟨rfl,gH⟩
 have hrw:=kx.rowAt (i:=s) (by rw [hil]; exact hs);obtain ⟨r1,o1,sp1,a',c',rfl,hsp1,hc1,hvr⟩:=hrw;have erl:(rw_ m.i.next s).length = m.base:=hm.Vb hs;rw [erl] at hc1 hvr;conv=>whnf
 repeat (refine aC.go ?_; conv=>whnf)
 refine ⟨_,c2,?_⟩;conv=>whnf
 refine ⟨hsp1,⟨by omega,by omega⟩,?_⟩;conv=>whnf
 refine ⟨_,hc1,?_⟩;conv=>whnf
 repeat (refine aC.go ?_; conv=>whnf)
 refine bT (α:=Nat) (fun d=>[(7,int (m.mh ls s d)),(17,int d),(16,int m.base),(15,.slice a' m.base c'),(3,ptr h.next 0),(2,int s),(1,.slice al ls.length cl),(6,int 0)]) (fun _=>H) (fun d=>d≤m.base) (fun d=>m.base - d) 0 (Nat.zero_le _) ⟨rfl,rfl,rfl,rfl,rfl,rfl,rfl,rfl,trivial⟩ (Hp.Le.refl _) ?_;rintro d φ3 hd;conv=>whnf
 repeat (refine aC.go ?_; conv=>whnf)
 refine dJ (fun hlt=>?_) (fun hlt=>?_);rotate_left
 ·conv=>whnf
  repeat (refine aC.go ?_; conv=>whnf)
  have:d = m.base:=by omega
  subst this;repeat (refine aC.go ?_; conv=>whnf)
  exact ⟨(),⟨rfl,rfl,trivial⟩,rfl,rfl⟩
 have hd':d < m.base:=by omega
 have hnx:=View.iI hvr (i:=d) (by rw [erl]; exact hd');obtain ⟨r2,o2,sp2,ea,hsp2,-,hc2⟩:=hnx;subst ea;rw [Mac.XZ] at hc2;have hn:=hm.lt s d hs hd';have Rc:∃ t,m.nx s d = t:=⟨_,rfl⟩;obtain ⟨t,et⟩:=Rc;have hlF:m.mh ls s (d + 1) = if gl ls t < 0 then m.mh ls s d else if m.mh ls s d < 0∨gl ls t * m.base + d < m.mh ls s d then gl ls t * m.base + d else m.mh ls s d:=by rw [← et]; rfl
 rw [et] at hc2 hn;have hcl:=View.iI hvH (i:=t) (by omega);obtain ⟨r3,o3,sp3,ea,ug,-,hc3⟩:=hcl;subst ea;have hG:=hbd t hn;have ad4:∃ G,gl ls t = G:=⟨_,rfl⟩;obtain ⟨G,eG⟩:=ad4;rw [eG] at hG hc3 hlF;have rO:∃ L,m.mh ls s d = L:=⟨_,rfl⟩;obtain ⟨L,eL⟩:=rO;rw [eL] at hlF;rw [eL];conv=>whnf
 repeat (refine aC.go ?_; conv=>whnf)
 refine ⟨hsp2,⟨by omega,by omega⟩,?_⟩;conv=>whnf
 refine ⟨_,hc2,?_⟩;conv=>whnf
 repeat (refine aC.go ?_; conv=>whnf)
 refine ⟨ug,⟨by omega,by omega⟩,?_⟩;conv=>whnf
 refine ⟨_,hc3,?_⟩;conv=>whnf
 by_cases hneg:G < 0
 ·rw [if_pos hneg] at hlF;refine mO hneg ?_;conv=>whnf
  repeat (refine aC.go ?_; conv=>whnf)
  refine ⟨_,wid (by omega),?_⟩;conv=>whnf
  refine Rnd.mk (d + 1) (by show d + 1≤_; omega) (by show m.base - (d + 1) < m.base - d; omega) ⟨congrArg int hlF.symm,rfl,rfl,rfl,rfl,rfl,rfl,rfl,trivial⟩ (Hp.Le.refl _) rfl
 rw [if_neg hneg] at hlF;refine Ag hneg ?_;conv=>whnf
 have acK:=Int.mul_nonneg (show 0≤G by omega) (Int.natCast_nonneg m.base);have acL:=Int.mul_le_mul hG.2 (show (m.base:Int)≤5 by omega) (Int.natCast_nonneg m.base) (by omega);have ad5:∃ P,G * (m.base:Int) = P:=⟨_,rfl⟩;obtain ⟨P,eP⟩:=ad5;rw [eP] at acK acL hlF;repeat (refine aC.go ?_; conv=>whnf)
 refine ⟨ug,⟨by omega,by omega⟩,?_⟩;conv=>whnf
 refine ⟨_,hc3,?_⟩;conv=>whnf
 refine ⟨_,c0,?_⟩;conv=>whnf
 refine ⟨P,wie eP (by omega),?_⟩;conv=>whnf
 refine ⟨P + d,wie (by omega) (by omega),?_⟩;conv=>whnf
 repeat (refine aC.go ?_; conv=>whnf)
 refine dJ (fun hL=>?_) (fun hL=>?_)
 ·rw [if_pos (.inl hL)] at hlF;conv=>whnf
  repeat (refine aC.go ?_; conv=>whnf)
  refine ⟨_,wid (by omega),?_⟩;conv=>whnf
  exact Rnd.mk (d + 1) (by show d + 1≤_; omega) (by show m.base - (d + 1) < m.base - d; omega) ⟨congrArg int hlF.symm,rfl,rfl,rfl,rfl,rfl,rfl,rfl,trivial⟩ (Hp.Le.refl _) rfl
 ·conv=>whnf
  refine dJ (fun hL2=>?_) (fun hL2=>?_)
  ·rw [if_pos (.inr hL2)] at hlF;conv=>whnf
   repeat (refine aC.go ?_; conv=>whnf)
   refine ⟨_,wid (by omega),?_⟩;conv=>whnf
   exact Rnd.mk (d + 1) (by show d + 1≤_; omega) (by show m.base - (d + 1) < m.base - d; omega) ⟨congrArg int hlF.symm,rfl,rfl,rfl,rfl,rfl,rfl,rfl,trivial⟩ (Hp.Le.refl _) rfl
  ·rw [if_neg (by omega)] at hlF;conv=>whnf
   repeat (refine aC.go ?_; conv=>whnf)
   refine ⟨_,wid (by omega),?_⟩;conv=>whnf
   exact Rnd.mk (d + 1) (by show d + 1≤_; omega) (by show m.base - (d + 1) < m.base - d; omega) ⟨congrArg int hlF.symm,rfl,rfl,rfl,rfl,rfl,rfl,rfl,trivial⟩ (Hp.Le.refl _) rfl
theorem Vt (v:Value)(m:Mac)(out:Int)(h:Hp)(hv:MV h v m.i)(hm:OkS m):aJ E 80 [v,int out] h (fun r h'=>(∃ b,r = .tuple ⟨[int (max (gl (m.evK out m.out.length) 0) 0),.bool b]⟩∧bO b (0≤gl (m.evK out m.out.length) 0))∧aA h h'):=by
 obtain ⟨bx,rfl,hbx⟩:=hv.box;obtain ⟨ao,an,co,cn,hcx⟩:=hbx.cx;have hlenx:=hbx.len;have ze:=hm.n12;have hn1:=hm.ok.n1;have hb5:=hm.b5;have Rc:∃ n,m.out.length = n:=⟨_,rfl⟩;obtain ⟨n,en⟩:=Rc;rw [en] at ze hn1;have bd:∀ k,k≤n→∀ j,j < n→-1≤gl (m.evK out k) j∧gl (m.evK out k) j≤300000000:=fun k hk j hj=>by
  have h1:=Mac.abu hm.ok out (k:=k) (s:=j) (by omega);have h2:=ad3 hb5 (k:=k) (by omega);omega
 refine enter80 (by simp) ?_;conv=>whnf
 refine aC.cut (α:=Hp) (fun _=>[(2,ptr h.next 0),(1,int out)]) (fun x H=>x = H∧aA h H∧H.at h.next = some (.row 25 true bx)) ?_ ?_
 ·conv=>whnf
  exact ⟨_,⟨rfl,rfl,trivial⟩,⟨rfl,aA.lay _ _,Hp.ak _ _⟩,rfl⟩
 rintro H φ1 _ ⟨rfl,gH,aX⟩;have kxH:∀ H2,aA H H2→Cx H2 h.next m.i ao an co cn:=fun H2 g=>hcx H2 h.next 25 (gH.trans g) (g.at_ _ _ aX);have c1H:∀ H2,aA H H2→cellAt H2 h.next 1 = some (.slice ao n co):=fun H2 g=>by rw [← en]; exact (kxH H2 g).c1
 conv=>whnf
 refine aC.cut (α:=Hp) (fun _=>[(6,slc H.next 0 n n),(2,ptr h.next 0),(1,int out)]) (fun x H2=>x = H2∧aA H H2∧H2.at H.next = some (.row 2 true ((List.replicate n 0).map int))) ?_ ?_
 ·conv=>whnf
  refine ⟨_,c1H _ (.refl _),?_⟩;conv=>whnf
  refine ⟨⟨by omega,by omega,by omega,by omega⟩,?_⟩;conv=>whnf
  refine ⟨_,⟨rfl,rfl,rfl,trivial⟩,⟨rfl,aA.lay _ _,?_⟩,rfl⟩;rw [← Kq];exact Hp.ak _ _
 rintro H2 φ2 _ ⟨rfl,g2,aF⟩;conv=>whnf
 refine aC.cut (α:=Hp) (fun _=>[(6,slc H.next 0 n n),(2,ptr h.next 0),(1,int out)]) (fun x H3=>x = H3∧aA H H3∧H3.at H.next = some (.row 2 true ((m.evK out 0).map int))) ?_ ?_
 ·conv=>whnf
  repeat (refine aC.go ?_; conv=>whnf)
  refine ⟨_,c1H _ g2,?_⟩;conv=>whnf
  repeat (refine aC.go ?_; conv=>whnf)
  refine bT (α:=Nat×List Int×Hp) (fun s=>[(18,int s.1),(17,int n),(16,.slice ao n co),(6,slc H.next 0 n n),(2,ptr h.next 0),(1,int out)]) (fun s=>s.2.2) (fun s=>s.1≤n∧s.2.1.length = n∧(∀ j,j < s.1→gl s.2.1 j = if m.o j = out then 0 else -1)∧aA H s.2.2∧s.2.2.at H.next = some (.row 2 true (s.2.1.map int))) (fun s=>n - s.1) (0,List.replicate n 0,_) ⟨Nat.zero_le _,List.length_replicate,fun j hj=>absurd hj (Nat.not_lt_zero _),g2,aF⟩ ⟨rfl,rfl,rfl,rfl,rfl,rfl,trivial⟩ (Hp.Le.refl _) ?_;rintro ⟨i,ls,G⟩ φ3 ⟨hi,hls,E8,gG,aG⟩;dsimp only at hi hls E8 gG aG ⊢;conv=>whnf
  repeat (refine aC.go ?_; conv=>whnf)
  refine dJ (fun hlt=>?_) (fun hlt=>?_);rotate_left
  ·conv=>whnf
   repeat (refine aC.go ?_; conv=>whnf)
   have:i = n:=by omega
   subst this;refine ⟨G,⟨rfl,rfl,rfl,trivial⟩,⟨rfl,gG,?_⟩,rfl⟩;have e:m.evK out 0 = ls:=Dv (by rw [Mac.pE,hls,en]) fun j hj=>by
    rw [Mac.pE,en] at hj;rw [E8 j hj,l9 (by rw [Mac.pE,en]; exact hj)];have e2:m.o j = m.out[j]:=l9 (by rw [en]; exact hj);simp [Mac.evK,e2]
   rw [e];exact aG
  have hi':i < n:=by omega
  have hol:=(kxH G gG).qD (s:=i) (by omega);obtain ⟨r2,o2,sp2,ea,hsp2,hc2⟩:=hol;subst ea;have aG1:(G.set H.next (.row 2 true ((ls.map int).set i (int (-1))))).at H.next = some (.row 2 true ((ls.set i (-1)).map int)):=by
   rw [List.map_set];exact Hp.bB _ (Hp.aU aG)
  have gG1:aA H (G.set H.next (.row 2 true ((ls.map int).set i (int (-1))))):=gG.bQ _ (Nat.le_refl _);refine ⟨hsp2,⟨by omega,by omega⟩,?_⟩;conv=>whnf
  refine ⟨_,hc2,?_⟩;conv=>whnf
  repeat (refine aC.go ?_; conv=>whnf)
  refine ⟨rfl,⟨by omega,by omega⟩,?_⟩;conv=>whnf
  refine ⟨rfl,_,jd aG (by rw [List.length_map,Int.toNat_natCast]; omega) rfl,?_⟩;conv=>whnf
  repeat (refine aC.go ?_; conv=>whnf)
  refine dJ (fun heq=>?_) (fun heq=>?_)
  ·conv=>whnf
   repeat (refine aC.go ?_; conv=>whnf)
   refine ⟨rfl,⟨by omega,by omega⟩,?_⟩;conv=>whnf
   refine ⟨rfl,_,jd aG1 (by rw [List.length_map,List.length_set,Int.toNat_natCast]; omega) rfl,?_⟩;conv=>whnf
   repeat (refine aC.go ?_; conv=>whnf)
   refine ⟨_,wid (by omega),?_⟩;conv=>whnf
   refine Rnd.mk (i + 1,(ls.set i (-1)).set i 0,_) ⟨by show i + 1≤_; omega,?_,?_,gG1.bQ (.row 2 true (((ls.set i (-1)).map int).set i (int 0))) (Nat.le_refl _),?_⟩ (by show n - (i + 1) < n - i; omega) ⟨rfl,rfl,rfl,rfl,rfl,rfl,trivial⟩ (Hp.Le.refl _) rfl
   ·show ((ls.set i (-1)).set i 0).length = n;rw [List.length_set,List.length_set,hls]
   ·intro j hj;show gl ((ls.set i (-1)).set i 0) j = _;rw [MJ _ _ _ (by rw [List.length_set]; omega)];by_cases e:j = i
    ·subst e; rw [if_pos rfl,if_pos heq]
    ·rw [if_neg e,MJ _ _ _ (by omega),if_neg e];exact E8 j (by have:j < i + 1:=hj; omega)
   ·show (Hp.set _ _ _).at H.next = some (.row 2 true (((ls.set i (-1)).set i 0).map int));rw [show ((ls.set i (-1)).set i 0).map int = ((ls.set i (-1)).map int).set i (int 0) from List.map_set];exact Hp.bB _ (Hp.aU aG1)
  ·conv=>whnf
   repeat (refine aC.go ?_; conv=>whnf)
   refine ⟨_,wid (by omega),?_⟩;conv=>whnf
   refine Rnd.mk (i + 1,ls.set i (-1),_) ⟨by show i + 1≤_; omega,?_,?_,gG1,aG1⟩ (by show n - (i + 1) < n - i; omega) ⟨rfl,rfl,rfl,rfl,rfl,rfl,trivial⟩ (Hp.Le.refl _) rfl
   ·show (ls.set i (-1)).length = n;rw [List.length_set,hls]
   ·intro j hj;show gl (ls.set i (-1)) j = _;rw [MJ _ _ _ (by omega)];by_cases e:j = i
    ·subst e; rw [if_pos rfl,if_neg heq]
    ·rw [if_neg e];exact E8 j (by have:j < i + 1:=hj; omega)
 rintro H3 φ3 _ ⟨rfl,g3,a3⟩;conv=>whnf
 refine aC.cut (α:=Nat×Hp) (fun s=>[(6,slc s.1 0 n n)]) (fun s H4=>s.2 = H4∧aA H s.2∧s.2.at s.1 = some (.row 2 true ((m.evK out n).map int))) ?_ ?_;rotate_left
 ·rintro ⟨r,H4⟩ φ4 _ ⟨rfl,g4,a4⟩;dsimp only at g4 a4 ⊢;have hvw:=View.iI (zi a4 (by rw [Mac.pE,en])) (i:=0) (by rw [Mac.pE]; omega);obtain ⟨r5,o5,sp5,ea,Fh,-,hc5⟩:=hvw;injection ea with ea;injection ea with e1 e2 e3;subst e1; subst e2; subst e3;have Yd:∃ x,gl (m.evK out n) 0 = x:=⟨_,rfl⟩;obtain ⟨x,ex⟩:=Yd;rw [ex] at hc5;have ad6:=bd n (Nat.le_refl _) 0 hn1;rw [ex] at ad6;rw [en,ex];conv=>whnf
  repeat (refine aC.go ?_; conv=>whnf)
  refine ⟨Fh,⟨by omega,by omega⟩,?_⟩;conv=>whnf
  refine ⟨_,hc5,?_⟩;conv=>whnf
  refine ⟨Fh,⟨by omega,by omega⟩,?_⟩;conv=>whnf
  refine ⟨_,hc5,?_⟩;conv=>whnf
  refine dJ (fun hge=>?_) (fun hge=>?_)
  ·conv=>whnf
   repeat (refine aC.go ?_; conv=>whnf)
   exact ⟨⟨true,congrArg (fun z=>Value.tuple ⟨[z,.bool true]⟩) (FQ x 0),oJ hge⟩,gH.trans g4⟩
  ·conv=>whnf
   repeat (refine aC.go ?_; conv=>whnf)
   exact ⟨⟨false,congrArg (fun z=>Value.tuple ⟨[z,.bool false]⟩) (FQ x 0),nX hge⟩,gH.trans g4⟩
 conv=>whnf
 repeat (refine aC.go ?_; conv=>whnf)
 refine ⟨_,c1H _ g3,?_⟩;conv=>whnf
 repeat (refine aC.go ?_; conv=>whnf)
 refine bT (α:=Nat×Nat×Hp) (fun s=>[(36,int s.1),(35,int n),(34,.slice ao n co),(6,slc s.2.1 0 n n),(2,ptr h.next 0),(1,int out)]) (fun s=>s.2.2) (fun s=>s.1≤n∧aA H s.2.2∧s.2.2.at s.2.1 = some (.row 2 true ((m.evK out s.1).map int))) (fun s=>n - s.1) (0,H.next,H3) ⟨Nat.zero_le _,g3,a3⟩ ⟨rfl,rfl,rfl,rfl,rfl,rfl,trivial⟩ (Hp.Le.refl _) ?_;rintro ⟨k,r,G⟩ φ4 ⟨hk,gG,aG⟩;dsimp only at hk gG aG ⊢;conv=>whnf
 repeat (refine aC.go ?_; conv=>whnf)
 refine dJ (fun hlt=>?_) (fun hlt=>?_);rotate_left
 ·conv=>whnf
  repeat (refine aC.go ?_; conv=>whnf)
  have:k = n:=by omega
  subst this;exact ⟨(r,G),⟨rfl,trivial⟩,⟨rfl,gG,aG⟩,rfl⟩
 have hk':k < n:=by omega
 conv=>whnf
 refine aC.go ?_;conv=>whnf
 refine aC.go ?_;conv=>whnf
 refine aC.cut (α:=Hp) (fun _=>[(9,slc G.next 0 n n),(6,slc r 0 n n),(36,int k),(35,int n),(34,.slice ao n co),(2,ptr h.next 0),(1,int out)]) (fun x H2=>x = H2∧aA G H2∧H2.at G.next = some (.row 2 true ((List.replicate n 0).map int))) ?_ ?_
 ·conv=>whnf
  refine ⟨_,c1H _ gG,?_⟩;conv=>whnf
  refine ⟨⟨by omega,by omega,by omega,by omega⟩,?_⟩;conv=>whnf
  refine ⟨_,⟨rfl,rfl,rfl,rfl,rfl,rfl,rfl,trivial⟩,⟨rfl,aA.lay _ _,?_⟩,rfl⟩;rw [← Kq];exact Hp.ak _ _
 rintro H5 φ5 _ ⟨rfl,g5,a5⟩;conv=>whnf
 refine aC.cut (α:=Hp) (fun _=>[(9,slc G.next 0 n n),(36,int k),(35,int n),(34,.slice ao n co),(2,ptr h.next 0),(1,int out)]) (fun x H6=>x = H6∧aA G H6∧H6.at G.next = some (.row 2 true ((m.evK out (k + 1)).map int))) ?_ ?_;rotate_left
 ·rintro H6 φ6 _ ⟨rfl,g6,a6⟩;conv=>whnf
  repeat (refine aC.go ?_; conv=>whnf)
  refine ⟨_,wid (by omega),?_⟩;conv=>whnf
  exact Rnd.mk (k + 1,G.next,H6) ⟨by show k + 1≤_; omega,gG.trans g6,a6⟩ (by show n - (k + 1) < n - k; omega) ⟨rfl,rfl,rfl,rfl,rfl,rfl,trivial⟩ (Hp.Le.refl _) rfl
 have hbk:=bd k hk;have hlk:(m.evK out k).length = n:=by rw [Mac.pE,en]
 conv=>whnf
 repeat (refine aC.go ?_; conv=>whnf)
 refine ⟨_,c1H _ (gG.trans g5),?_⟩;conv=>whnf
 repeat (refine aC.go ?_; conv=>whnf)
 refine bT (α:=Nat×List Int×Hp) (fun s=>[(45,int s.1),(44,int n),(43,.slice ao n co),(9,slc G.next 0 n n),(6,slc r 0 n n),(36,int k),(35,int n),(34,.slice ao n co),(2,ptr h.next 0),(1,int out)]) (fun s=>s.2.2) (fun s=>s.1≤n∧s.2.1.length = n∧(∀ j,j < s.1→gl s.2.1 j = m.mh (m.evK out k) j m.base)∧aA G s.2.2∧s.2.2.at G.next = some (.row 2 true (s.2.1.map int))) (fun s=>n - s.1) (0,List.replicate n 0,_) ⟨Nat.zero_le _,List.length_replicate,fun j hj=>absurd hj (Nat.not_lt_zero _),g5,a5⟩ ⟨rfl,rfl,rfl,rfl,rfl,rfl,rfl,rfl,rfl,rfl,trivial⟩ (Hp.Le.refl _) ?_;rintro ⟨i,ls,F⟩ φ6 ⟨hi,hls,E8,gF,aF6⟩;dsimp only at hi hls E8 gF aF6 ⊢;conv=>whnf
 repeat (refine aC.go ?_; conv=>whnf)
 refine dJ (fun hlt2=>?_) (fun hlt2=>?_);rotate_left
 ·conv=>whnf
  repeat (refine aC.go ?_; conv=>whnf)
  have:i = n:=by omega
  subst this;refine ⟨F,⟨rfl,rfl,rfl,rfl,rfl,rfl,trivial⟩,⟨rfl,gF,?_⟩,rfl⟩;have e:m.evK out (k + 1) = ls:=Dv (by rw [Mac.pE,hls,en]) fun j hj=>by
   rw [Mac.pE,en] at hj;rw [E8 j hj,Mac.Yi (by rw [en]; exact hj)]
  rw [e];exact aF6
 have hi':i < n:=by omega
 have vl:=zi (gF.at_ _ _ aG) hlk;have gHF:=gG.trans gF;have hsp:=PI (.agg ⟨bx⟩) (some ⟨r,0,none⟩) n (m.evK out k) m i F (Bx.mv (hbx.ext (gH.trans gHF))) hm.ok hb5 (by omega) (by omega) (by rw [hlk]; exact vl) (by rw [hlk,en]) (fun j hj=>hbk j (by omega));rw [hlk] at hsp;conv=>whnf
 repeat (refine aC.go ?_; conv=>whnf)
 refine ⟨_,aI (gHF.at_ _ _ aX) hlenx,?_⟩;conv=>whnf
 refine aJ.mono hsp ?_;rintro _ F2 ⟨rfl,gF2⟩;have aF7:=gF2.at_ _ _ aF6;conv=>whnf
 refine ⟨rfl,⟨by omega,by omega⟩,?_⟩;conv=>whnf
 refine ⟨rfl,_,jd aF7 (by rw [List.length_map,Int.toNat_natCast]; omega) rfl,?_⟩;conv=>whnf
 repeat (refine aC.go ?_; conv=>whnf)
 refine ⟨_,wid (by omega),?_⟩;conv=>whnf
 refine Rnd.mk (i + 1,ls.set i (m.mh (m.evK out k) i m.base),_) ⟨by show i + 1≤_; omega,?_,?_,(gF.trans gF2).bQ (.row 2 true ((ls.map int).set i (int (m.mh (m.evK out k) i m.base)))) (Nat.le_refl _),?_⟩ (by show n - (i + 1) < n - i; omega) ⟨rfl,rfl,rfl,rfl,rfl,rfl,rfl,rfl,rfl,rfl,trivial⟩ (Hp.Le.refl _) rfl
 ·show (ls.set i _).length = n;rw [List.length_set,hls]
 ·intro j hj;show gl (ls.set i _) j = _;rw [MJ _ _ _ (by omega)];by_cases e:j = i
  ·subst e; rw [if_pos rfl]
  ·rw [if_neg e];exact E8 j (by have:j < i + 1:=hj; omega)
 ·show (Hp.set _ _ _).at G.next = some (.row 2 true ((ls.set i (m.mh (m.evK out k) i m.base)).map int));rw [List.map_set];exact Hp.bB _ (Hp.aU aF7)
end
end Go.Proofs.Ytedneplaibmppaa
namespace Go.Proofs.Ytedneplaibmppaa
open Go.Rx Go.RowKit
theorem abv {A B:jh}(hb:A.base = B.base)(ho:A.out.length = B.out.length)(hn:A.next.length = B.next.length)(hno:A.next.length = A.out.length)(h:∀ k,k < A.out.length→gl A.out k = gl B.out k∧rw_ A.next k = rw_ B.next k):A = B:=by
 obtain ⟨b1,o1,n1⟩:=A;obtain ⟨b2,o2,n2⟩:=B;dsimp only at *;have e1:o1 = o2:=Dv ho fun j hj=>(h j hj).1;have e2:n1 = n2:=List.ext_getElem hn fun i h1 h2=>by
  have:=(h i (by omega)).2;rwa [Av h1,Av h2] at this
 rw [hb,e1,e2]
attribute [local irreducible] E iJ cellAt bJ storeAt callable dh dG dO findKey dZ bP Hp.at Hp.set Hp.lay dL cO setAt aJ dx bO dz Rnd gq fB gY Int.tmod Int.tdiv Int.fdiv
section
variable [bC]
attribute [local irreducible] sameAt
theorem Vu (va vb:Value)(a b:List Int)(h:Hp)(ha:View h va a)(hb:View h vb b)(hla:a.length≤1000000):aJ E 61 [va,vb] h (fun r h'=>(∃ x,r = .bool x∧bO x (a = b))∧h' = h):=by
 obtain ⟨aa,ca,rfl⟩:=ha.known;obtain ⟨ab,cb,rfl⟩:=hb.known;refine enter61 (by simp) ?_;conv=>whnf
 repeat (refine aC.go ?_; conv=>whnf)
 refine dJ (fun hne=>?_) (fun heq=>?_)
 ·conv=>whnf
  repeat (refine aC.go ?_; conv=>whnf)
  exact ⟨⟨false,rfl,nX fun e=>hne (by rw [e])⟩,rfl⟩
 have hlen:a.length = b.length:=by omega
 conv=>whnf
 repeat (refine aC.go ?_; conv=>whnf)
 refine bT (α:=Nat) (fun i=>[(5,int i),(0,.slice aa a.length ca),(1,.slice ab b.length cb)]) (fun _=>h) (fun i=>i≤a.length∧∀ j,j < i→gl a j = gl b j) (fun i=>a.length - i) 0 ⟨Nat.zero_le _,fun j hj=>absurd hj (Nat.not_lt_zero _)⟩ ⟨rfl,rfl,rfl,trivial⟩ (Hp.Le.refl _) ?_;rintro i φ1 ⟨hi,hsame⟩;conv=>whnf
 repeat (refine aC.go ?_; conv=>whnf)
 refine dJ (fun hlt=>?_) (fun hlt=>?_);rotate_left
 ·conv=>whnf
  repeat (refine aC.go ?_; conv=>whnf)
  have:i = a.length:=by omega
  subst this;exact ⟨⟨true,rfl,oJ (Dv hlen hsame)⟩,rfl⟩
 have hi':i < a.length:=by omega
 have hca:=View.iI ha hi';have hcb:=View.iI hb (i:=i) (by omega);obtain ⟨r1,o1,sp1,ea,hsp1,-,hc1⟩:=hca;obtain ⟨r2,o2,sp2,eb,hsp2,-,hc2⟩:=hcb;subst ea;subst eb;conv=>whnf
 repeat (refine aC.go ?_; conv=>whnf)
 refine ⟨hsp1,⟨by omega,by omega⟩,?_⟩;conv=>whnf
 refine ⟨_,hc1,?_⟩;conv=>whnf
 refine ⟨hsp2,⟨by omega,by omega⟩,?_⟩;conv=>whnf
 refine ⟨_,hc2,?_⟩;conv=>whnf
 refine dJ (fun hne=>?_) (fun he=>?_)
 ·conv=>whnf
  repeat (refine aC.go ?_; conv=>whnf)
  exact ⟨⟨false,rfl,nX fun e=>hne (by rw [e])⟩,rfl⟩
 conv=>whnf
 repeat (refine aC.go ?_; conv=>whnf)
 refine ⟨_,wid (by omega),?_⟩;conv=>whnf
 exact Rnd.mk (i + 1) ⟨by omega,fun j hj=>by
  by_cases e:j = i
  ·subst e; omega
  ·exact hsame j (by omega)⟩ (by show a.length - (i + 1) < a.length - i; omega) ⟨rfl,rfl,rfl,trivial⟩ (Hp.Le.refl _) rfl
theorem tH (va vb:Value)(A B:jh)(h:Hp)(ha:MV h va A)(hb:MV h vb B)(hn:A.next.length = A.out.length)(hl:A.out.length≤1000000)(hr:∀ s,(rw_ A.next s).length≤1000000):aJ E 41 [va,vb] h (fun r h'=>(∃ x,r = .bool x∧bO x (A = B))∧aA h h'):=by
 obtain ⟨bxa,rfl,hxa⟩:=ha.box;obtain ⟨bxb,rfl,hxb⟩:=hb.box;obtain ⟨aoa,ana,coa,cna,RD⟩:=hxa.cx;obtain ⟨aob,anb,cob,cnb,Vr⟩:=hxb.cx;refine enter41 (by simp) ?_;conv=>whnf
 refine aC.cut (α:=Hp) (fun _=>[(4,.bool false),(3,ptr (h.next + 1) 0),(2,ptr h.next 0)]) (fun x H=>x = H∧aA h H∧H.at h.next = some (.row 26 true bxa)∧H.at (h.next + 1) = some (.row 26 true bxb)) ?_ ?_
 ·conv=>whnf
  have n1:(h.lay (.row 26 true bxa)).next = h.next + 1:=Hp.bF _ _;exact ⟨_,⟨rfl,congrArg (fun k=>ptr k 0) n1,rfl,trivial⟩,⟨rfl,(aA.lay _ _).bH _,Hp.bg _ (Hp.ak _ _),eB n1 (Hp.ak _ _)⟩,rfl⟩
 rintro H φ1 _ ⟨rfl,gH,aX,aY⟩;have kx:=RD H h.next 26 gH aX;have ky:=Vr H (h.next + 1) 26 gH aY;have x0:=kx.c0;have x1:=kx.c1;have x2:=kx.c2;have y0:=ky.c0;have y1:=ky.c1;have y2:=ky.c2;have no:¬ A = B→∀ v:Value,v = .bool false→(∃ x,v = .bool x∧bO x (A = B))∧aA h H:=fun k v e=>⟨⟨false,e,nX k⟩,gH⟩;conv=>whnf
 repeat (refine aC.go ?_; conv=>whnf)
 refine ⟨_,x0,?_⟩;conv=>whnf
 refine ⟨_,y0,?_⟩;conv=>whnf
 refine dJ (fun hne=>?_) (fun heq=>?_)
 ·conv=>whnf
  repeat (refine aC.go ?_; conv=>whnf)
  exact no (fun e=>hne (by rw [e])) _ rfl
 conv=>whnf
 refine ⟨_,x1,?_⟩;conv=>whnf
 refine ⟨_,y1,?_⟩;conv=>whnf
 refine dJ (fun hne=>?_) (fun heq1=>?_)
 ·conv=>whnf
  repeat (refine aC.go ?_; conv=>whnf)
  exact no (fun e=>hne (by rw [e])) _ rfl
 conv=>whnf
 refine ⟨_,x2,?_⟩;conv=>whnf
 refine ⟨_,y2,?_⟩;conv=>whnf
 refine dJ (fun hne=>?_) (fun heq2=>?_)
 ·conv=>whnf
  repeat (refine aC.go ?_; conv=>whnf)
  exact no (fun e=>hne (by rw [e])) _ rfl
 have ad7:A.base = B.base:=by omega
 have hol:A.out.length = B.out.length:=by omega
 have hnl:A.next.length = B.next.length:=by omega
 conv=>whnf
 repeat (refine aC.go ?_; conv=>whnf)
 refine bT (α:=Nat) (fun i=>[(5,int i),(4,.bool false),(3,ptr (h.next + 1) 0),(2,ptr h.next 0)]) (fun _=>H) (fun i=>i≤A.out.length∧∀ j,j < i→gl A.out j = gl B.out j∧rw_ A.next j = rw_ B.next j) (fun i=>A.out.length - i) 0 ⟨Nat.zero_le _,fun j hj=>absurd hj (Nat.not_lt_zero _)⟩ ⟨rfl,rfl,rfl,rfl,trivial⟩ (Hp.Le.refl _) ?_;rintro i φ2 ⟨hi,hsame⟩;conv=>whnf
 repeat (refine aC.go ?_; conv=>whnf)
 refine ⟨_,x1,?_⟩;conv=>whnf
 refine dJ (fun hlt=>?_) (fun hlt=>?_);rotate_left
 ·conv=>whnf
  repeat (refine aC.go ?_; conv=>whnf)
  have:i = A.out.length:=by omega
  subst this;exact ⟨⟨true,rfl,oJ (abv ad7 hol hnl hn hsame)⟩,gH⟩
 have hi':i < A.out.length:=by omega
 have hca:=kx.Ki hi';have hcb:=ky.Ki (i:=i) (by omega);have hra:=kx.rowAt (i:=i) (by omega);have hrb:=ky.rowAt (i:=i) (by omega);obtain ⟨r1,o1,sp1,ea,hsp1,hc1⟩:=hca;obtain ⟨r2,o2,sp2,eb,hsp2,hc2⟩:=hcb;obtain ⟨r3,o3,sp3,a3,c3,e3,ug,hc3,hv3⟩:=hra;obtain ⟨r4,o4,sp4,a4,c4,e4,Fg,hc4,hv4⟩:=hrb;subst ea;subst eb;subst e3;subst e4;conv=>whnf
 repeat (refine aC.go ?_; conv=>whnf)
 refine ⟨_,x1,?_⟩;conv=>whnf
 refine ⟨hsp1,⟨by omega,by omega⟩,?_⟩;conv=>whnf
 refine ⟨_,hc1,?_⟩;conv=>whnf
 refine ⟨_,y1,?_⟩;conv=>whnf
 refine ⟨hsp2,⟨by omega,by omega⟩,?_⟩;conv=>whnf
 refine ⟨_,hc2,?_⟩;conv=>whnf
 refine dJ (fun hne=>?_) (fun he1=>?_)
 ·conv=>whnf
  repeat (refine aC.go ?_; conv=>whnf)
  exact no (fun e=>hne (by rw [e])) _ rfl
 conv=>whnf
 refine ⟨_,x2,?_⟩;conv=>whnf
 refine ⟨ug,⟨by omega,by omega⟩,?_⟩;conv=>whnf
 refine ⟨_,hc3,?_⟩;conv=>whnf
 refine ⟨_,y2,?_⟩;conv=>whnf
 refine ⟨Fg,⟨by omega,by omega⟩,?_⟩;conv=>whnf
 refine ⟨_,hc4,?_⟩;conv=>whnf
 refine dJ (fun hne=>?_) (fun he2=>?_)
 ·conv=>whnf
  repeat (refine aC.go ?_; conv=>whnf)
  exact no (fun e=>hne (by rw [e])) _ rfl
 have hrl:(rw_ A.next i).length = (rw_ B.next i).length:=by omega
 have hrA:=hr i;conv=>whnf
 repeat (refine aC.go ?_; conv=>whnf)
 refine bT (α:=Nat) (fun j=>[(6,int j),(5,int i),(4,.bool false),(3,ptr (h.next + 1) 0),(2,ptr h.next 0)]) (fun _=>H) (fun j=>j≤(rw_ A.next i).length∧∀ k,k < j→gl (rw_ A.next i) k = gl (rw_ B.next i) k) (fun j=>(rw_ A.next i).length - j) 0 ⟨Nat.zero_le _,fun j hj=>absurd hj (Nat.not_lt_zero _)⟩ ⟨rfl,rfl,rfl,rfl,rfl,trivial⟩ (Hp.Le.refl _) ?_;rintro j φ3 ⟨hj,Ym⟩;conv=>whnf
 repeat (refine aC.go ?_; conv=>whnf)
 refine ⟨_,x2,?_⟩;conv=>whnf
 refine ⟨ug,⟨by omega,by omega⟩,?_⟩;conv=>whnf
 refine ⟨_,hc3,?_⟩;conv=>whnf
 refine dJ (fun hlt2=>?_) (fun hlt2=>?_);rotate_left
 ·conv=>whnf
  repeat (refine aC.go ?_; conv=>whnf)
  refine ⟨_,wid (by omega),?_⟩;conv=>whnf
  have:j = (rw_ A.next i).length:=by omega
  subst this;exact Rnd.mk (i + 1) ⟨by omega,fun k hk=>by
   by_cases e:k = i
   ·subst e; exact ⟨by omega,Dv hrl Ym⟩
   ·exact hsame k (by omega)⟩ (by show A.out.length - (i + 1) < A.out.length - i; omega) ⟨rfl,rfl,rfl,rfl,trivial⟩ (Hp.Le.refl _) rfl
 have hj':j < (rw_ A.next i).length:=by omega
 have hj3:=View.iI hv3 hj';have hj4:=View.iI hv4 (i:=j) (by omega);obtain ⟨r5,o5,sp5,e5,Fh,-,hc5⟩:=hj3;obtain ⟨r6,o6,sp6,e6,ZN,-,hc6⟩:=hj4;subst e5;subst e6;conv=>whnf
 repeat (refine aC.go ?_; conv=>whnf)
 refine ⟨_,x2,?_⟩;conv=>whnf
 refine ⟨ug,⟨by omega,by omega⟩,?_⟩;conv=>whnf
 refine ⟨_,hc3,?_⟩;conv=>whnf
 refine ⟨Fh,⟨by omega,by omega⟩,?_⟩;conv=>whnf
 refine ⟨_,hc5,?_⟩;conv=>whnf
 refine ⟨_,y2,?_⟩;conv=>whnf
 refine ⟨Fg,⟨by omega,by omega⟩,?_⟩;conv=>whnf
 refine ⟨_,hc4,?_⟩;conv=>whnf
 refine ⟨ZN,⟨by omega,by omega⟩,?_⟩;conv=>whnf
 refine ⟨_,hc6,?_⟩;conv=>whnf
 refine dJ (fun hne=>?_) (fun he3=>?_)
 ·conv=>whnf
  repeat (refine aC.go ?_; conv=>whnf)
  exact no (fun e=>hne (by rw [e])) _ rfl
 conv=>whnf
 repeat (refine aC.go ?_; conv=>whnf)
 refine ⟨_,wid (by omega),?_⟩;conv=>whnf
 exact Rnd.mk (j + 1) ⟨by omega,fun k hk=>by
  by_cases e:k = j
  ·subst e; omega
  ·exact Ym k (by omega)⟩ (by show (rw_ A.next i).length - (j + 1) < (rw_ A.next i).length - j; omega) ⟨rfl,rfl,rfl,rfl,rfl,trivial⟩ (Hp.Le.refl _) rfl
end
end Go.Proofs.Ytedneplaibmppaa
namespace Go.Proofs.Ytedneplaibmppaa
open Go.Rx Go.RowKit
def acM (m:Mac)(out:Int)(r:Value):Prop:=(¬ (0≤out∧out≤9)→r = .tuple ⟨[int 0,.bool false,int 1]⟩)∧(0≤out∧out≤9→∃ b,r = .tuple ⟨[int (max (gl (m.evK out m.out.length) 0) 0),.bool b,int 0]⟩∧bO b (0≤gl (m.evK out m.out.length) 0))
attribute [local irreducible] E iJ cellAt bJ storeAt callable dh dG dO findKey dZ bP Hp.at Hp.set Hp.lay dL cO setAt aJ dx bO dz Rnd gq fB gY Int.tmod Int.tdiv Int.fdiv
section
variable [bC]
attribute [local irreducible] sameAt
theorem Vv (v:Value)(m:Mac)(out:Int)(h:Hp)(hv:MV h v m.i)(hm:OkS m):aJ E 35 [v,int out] h (fun r h'=>acM m out r∧aA h h'):=by
 obtain ⟨bx,rfl,hbx⟩:=hv.box;have hL:=hm.lens;refine enter35 (by simp) ?_;conv=>whnf
 refine aC.cut (α:=Hp) (fun _=>[(2,ptr h.next 0),(1,int out)]) (fun x H=>x = H∧aA h H∧H.at h.next = some (.row 25 true bx)) ?_ ?_
 ·conv=>whnf
  exact ⟨_,⟨rfl,rfl,trivial⟩,⟨rfl,aA.lay _ _,Hp.ak _ _⟩,rfl⟩
 rintro H φ1 _ ⟨rfl,gH,aX⟩;conv=>whnf
 repeat (refine aC.go ?_; conv=>whnf)
 refine ⟨_,aI aX hbx.len,?_⟩;conv=>whnf
 refine aJ.mono (lg _ m.i _ (Bx.mv (hbx.ext gH)) hL.1 hL.2.1 hL.2.2) ?_;rintro r H2 ⟨⟨e,rfl,he,-⟩,g2⟩;have he:=he hm.ck;subst he;have aX2:=g2.at_ _ _ aX;have gh2:=gH.trans g2;conv=>whnf
 repeat (refine aC.go ?_; conv=>whnf)
 refine Ag (by omega) ?_;conv=>whnf
 repeat (refine aC.go ?_; conv=>whnf)
 refine aJ.mono (Ip out _) ?_;rintro r _ ⟨⟨b,rfl,hb⟩,rfl⟩
 cases b with
 | false =>
  have hb:=hb.f;conv=>whnf
  repeat (refine aC.go ?_; conv=>whnf)
  exact ⟨⟨fun _=>rfl,fun k=>absurd k hb⟩,gh2⟩
 | true =>
  have hb:=hb.t;conv=>whnf
  repeat (refine aC.go ?_; conv=>whnf)
  refine ⟨_,aI aX2 hbx.len,?_⟩;conv=>whnf
  refine aJ.mono (Vt _ m out _ (Bx.mv (hbx.ext gh2)) hm) ?_;rintro r H3 ⟨⟨b,rfl,hb2⟩,g3⟩;conv=>whnf
  repeat (refine aC.go ?_; conv=>whnf)
  exact ⟨⟨fun k=>absurd hb k,fun _=>⟨b,rfl,hb2⟩⟩,gh2.trans g3⟩
end
end Go.Proofs.Ytedneplaibmppaa
namespace Go.Proofs.Ytedneplaibmppaa
open Go.Rx Go.RowKit
def tm:Mac:=⟨2,[0,1],[[0,1],[1,0]]⟩
def rd:Mac:=⟨2,[0,0,1],[[1,2],[1,1],[2,2]]⟩
theorem um:OkS tm where
 ok:=⟨by decide,by decide,rfl,by decide,fun s d hs hd=>(show ∀ s < 2,∀ d < 2,tm.nx s d < 2 by decide) s hs d hd⟩
 zer:=by unfold Mac.Zer; decide
 ck:=⟨by decide,by decide,by decide,by decide,by decide,rfl,fun s hs=>by
  have:s = 0∨s = 1:=by have:s < 2:=hs; omega
  rcases this with rfl | rfl
  ·exact ⟨by decide,by decide,rfl⟩
  ·exact ⟨by decide,by decide,rfl⟩⟩
theorem abw:OkS rd where
 ok:=⟨by decide,by decide,rfl,by decide,fun s d hs hd=>(show ∀ s < 3,∀ d < 2,rd.nx s d < 3 by decide) s hs d hd⟩
 zer:=by unfold Mac.Zer; decide
 ck:=⟨by decide,by decide,by decide,by decide,by decide,rfl,fun s hs=>by
  have:s = 0∨s = 1∨s = 2:=by have:s < 3:=hs; omega
  rcases this with rfl | rfl | rfl
  ·exact ⟨by decide,by decide,rfl⟩
  ·exact ⟨by decide,by decide,rfl⟩
  ·exact ⟨by decide,by decide,rfl⟩⟩
theorem ZO:tm.form = tm:=by
 unfold Mac.form built;rw [show tm.cl 0 = 0 from rfl,Ei (L:=[0,1]) (.step (s:=0) rfl (.step (s:=1) rfl (.done (Nat.le_refl 2))))];rfl
theorem ZP:rd.form = rd:=by
 unfold Mac.form built;rw [show rd.cl 0 = 0 from rfl,Ei (L:=[0,1,2]) (.step (s:=0) rfl (.step (s:=1) rfl (.step (s:=2) rfl (.done (Nat.le_refl 3)))))];rfl
theorem Yn:(tm.every 2 0).form = tm:=by
 have h1:=Mac.vJ um.ok 2 0;rw [Mac.Kg h1.1 um.ok rfl ?_,ZO];rw [Mac.OW h1.1 um.ok (by decide) rfl (Mac.Er um.ok um.b2 um.zer 2 0) um.zer h1.1.n1 um.ok.n1];intro n;rw [Mac.za um.ok um.b2 um.zer];have:=Mac.Tg um.ok um.b2 um.zer (s:=0) (d:=0) (n:=n) (by decide) (by decide);rw [Nat.zero_add] at this;exact this
theorem ZQ:Ay 2 [0,1] 0 = rd:=by
 unfold Ay built;rw [show ((((kM [(0:Int),1].length 0 1:Nat):Int)),(0:Int)) = ((1:Int),(0:Int)) from rfl,Ei (L:=[((1:Int),(0:Int)),(0,0),(0,1)]) (.step (s:=((1:Int),(0:Int))) rfl (.step (s:=((0:Int),(0:Int))) rfl (.step (s:=((0:Int),(1:Int))) rfl (.done (Nat.le_refl 3)))))];rfl
theorem abx:Ra tm 8 = [0,1,1,0,1,0,0,1]:=by kernel_rfl
theorem ZR:gl (tm.evK 1 tm.out.length) 0 = 1:=by kernel_rfl
theorem MK:∀ w s,(s = 1∨s = 2)→Mac.Wd 2 w→rd.run s w = s
 | [],s,_,_=>rfl
 | d :: w,s,hs,hw=>by
  have hd:d < 2:=hw d (by simp);have hw':Mac.Wd 2 w:=fun x hx=>hw x (by simp [hx]);have e:rd.nx s d = s:=by
   have hd':d = 0∨d = 1:=by omega
   rcases hs with rfl | rfl <;> rcases hd' with rfl | rfl <;> rfl
  show rd.run (rd.nx s d) w = s;rw [e];exact MK w s hs hw'
theorem TF (n:Nat):rd.at_ 0 n = ((n % 2:Nat):Int):=by
 by_cases h:n = 0
 ·subst h; rfl
 ·show rd.o (rd.run 0 (dg 2 n)) = _;rw [Io (Nat.le_refl 2) h];show rd.o (rd.run (rd.nx 0 (n % 2)) (dg 2 (n / 2))) = _;have hm:n % 2 = 0∨n % 2 = 1:=by omega
  rcases hm with e | e
  ·rw [e,show rd.nx 0 0 = 1 from rfl,MK _ _ (.inl rfl) (CZ (Nat.le_refl 2) _)]; rfl
  ·rw [e,show rd.nx 0 1 = 2 from rfl,MK _ _ (.inr rfl) (CZ (Nat.le_refl 2) _)]; rfl
theorem ZT {r:Value}(h:aav rd r):r = .tuple ⟨[int 0,int 2,.bool true,int 0]⟩:=by
 have h2:rU rd 60 2:=fun n=>by rw [TF,TF,show (n + 60) % 2 = (n + 60 + 2) % 2 by omega]
 have h1:¬ rU rd 60 1:=fun k=>by
  have:=k 0;rw [TF,TF] at this
  revert this
  decide
 rcases h with ⟨p,hp1,aeW,hp,hmin,e⟩ | ⟨hno,_⟩
 ·have:p = 2:=by
   by_cases h3:p = 2
   ·exact h3
   ·by_cases h4:p = 1
    ·subst h4; exact absurd hp h1
    ·exact absurd h2 (hmin 2 (by omega) (by omega))
  subst this;rw [e,show rV rd 2 60 = 0 from by kernel_rfl];rfl
 ·exact absurd h2 (hno 2 (by omega) (by omega))
end Go.Proofs.Ytedneplaibmppaa
namespace Go.Proofs.Ytedneplaibmppaa
open Go.Rx Go.RowKit
theorem je {m:Mac}(h:OkS m):Lens m.i:=by
 have:=h.lens;exact ⟨by omega,by omega,fun s=>by have:=this.2.2 s; omega⟩
theorem Yo:Q9 tm.i = tm.i:=rfl
theorem aby:Q9 rd.i = rd.i:=rfl
theorem MV.bx {h:Hp}{cs:List Value}{M:jh}(k:MV h (.agg ⟨cs⟩) M):Bx h cs M:=by
 obtain ⟨bx,e,hb⟩:=k.box;injection e with e;injection e with e;subst e;exact hb
theorem acN {H:Hp}{r1 r2 r3 r4 r5:Nat}(h1:H.at r1 = some (.row 3 true [int 0,int 0,int 1]))(h2:H.at r2 = some (.row 3 true [int 1,int 2]))(h3:H.at r3 = some (.row 3 true [int 1,int 1]))(h4:H.at r4 = some (.row 3 true [int 2,int 2]))(h5:H.at r5 = some (.row 22 true [slc r2 0 2 2,slc r3 0 2 2,slc r4 0 2 2])):MV H (.agg ⟨[int 2,slc r1 0 3 3,slc r5 0 3 3]⟩) rd.i:=by
 refine jY.mv (h0:=⟨0,H.raw⟩) ⟨_,_,[slc r2 0 2 2,slc r3 0 2 2,slc r4 0 2 2],rfl,⟨rfl,.inr ⟨_,rfl,Nat.zero_le _,true,h1⟩⟩,⟨rfl,.inr ⟨_,rfl,Nat.zero_le _,true,h5⟩⟩,rfl,fun k u l e1 e2=>?_⟩
 match k,e1,e2 with
 | 0,e1,e2=>cases e1; cases e2; exact .inr ⟨_,rfl,Nat.zero_le _,true,h2⟩
 | 1,e1,e2=>cases e1; cases e2; exact .inr ⟨_,rfl,Nat.zero_le _,true,h3⟩
 | 2,e1,e2=>cases e1; cases e2; exact .inr ⟨_,rfl,Nat.zero_le _,true,h4⟩
 | k + 3,e1,e2=>simp at e1
attribute [local irreducible] E iJ cellAt bJ storeAt callable dh dG dO findKey dZ bP Hp.at Hp.set Hp.lay dL cO setAt aJ dx bO dz Rnd gq fB gY Int.tmod Int.tdiv Int.fdiv
section
variable [bC]
attribute [local irreducible] sameAt
theorem RQ (h:Hp):aJ E 21 [] h (fun r h'=>r = .bool true∧aA h h'):=by
 refine enter21 (by simp) ?_;conv=>whnf
 refine aC.go ?_;conv=>whnf
 refine aC.cut (α:=Nat×List Value×Hp) (fun s=>[(1,ptr s.1 0)]) (fun s H=>s.2.2 = H∧aA h H∧H.at s.1 = some (.row 25 true s.2.1)∧Bx H s.2.1 tm.i) ?_ ?_
 ·conv=>whnf
  refine aJ.mono (RJ _) ?_;rintro w H ⟨hw,g⟩;have hk:=hw.known;obtain ⟨a,b,rfl⟩:=hk;conv=>whnf
  refine ⟨rfl,_,bX (vs:=[int 2,.slice a _ _,.slice b _ _]) rfl rfl rfl,?_⟩;conv=>whnf
  refine ⟨(H.next,_,_),⟨rfl,trivial⟩,⟨rfl,g.bH _,Hp.ak _ _,?_⟩,rfl⟩;exact (hw.mv.ext (aA.lay _ _)).bx
 rintro ⟨N1,bx,H1⟩ φ1 _ ⟨rfl,g1,a1,b1⟩;dsimp only at g1 a1 b1 ⊢;conv=>whnf
 refine aC.cut (α:=Nat×Option Addr×Hp) (fun s=>[(1,ptr N1 0),(2,.slice s.2.1 8 8),(3,int 0)]) (fun s H=>s.2.2 = H∧aA H1 H∧View H (.slice s.2.1 8 8) [0,1,1,0,1,0,0,1]) ?_ ?_
 ·conv=>whnf
  refine ⟨_,aI a1 b1.len,?_⟩;conv=>whnf
  refine aJ.mono (Rb _ tm 8 _ (Bx.mv b1) um) ?_;rintro r H2 ⟨⟨-,hw0⟩,g2⟩;have hw0:=hw0 (by omega) (by omega);obtain ⟨w,rfl,hw⟩:=hw0;have e8:Ra tm (8:Int).toNat = [0,1,1,0,1,0,0,1]:=abx;rw [e8] at hw;have hws:=hw.c.slice;obtain ⟨aw,rfl,-⟩:=hws;conv=>whnf
  exact ⟨(0,aw,_),⟨rfl,rfl,rfl,trivial⟩,⟨rfl,g2,hw.view⟩,rfl⟩
 rintro ⟨x2,aw,H2⟩ φ2 _ ⟨rfl,g2,v2⟩;dsimp only at g2 v2 ⊢;conv=>whnf
 refine aC.cut (α:=Nat×List Value×Hp) (fun s=>[(1,ptr N1 0),(2,.slice aw 8 8),(3,int 0),(4,ptr s.1 0),(5,int 0)]) (fun s H=>s.2.2 = H∧aA H2 H∧H.at s.1 = some (.row 25 true s.2.1)∧Bx H s.2.1 rd.i) ?_ ?_
 ·conv=>whnf
  have gl1:aA H2 (H2.lay (.row 3 true [int 0,int 1])):=aA.lay _ _;have vb:View (H2.lay (.row 3 true [int 0,int 1])) (slc H2.next 0 2 2) [0,1]:=zi (ls:=[0,1]) (Hp.ak _ _) rfl;have vn:View (H2.lay (.row 3 true [int 0,int 1])) aN []:=Built.view (h0:=H2) (e:=3) (.inl ⟨rfl,rfl⟩);refine aJ.mono (RP 2 _ _ [] [0,1] _ vn vb (by simp) (by simp)) ?_;rintro r H3 ⟨⟨-,hr⟩,g3⟩;have hnb:¬ MI 2 ([]:List Int) [0,1]:=by unfold MI; simp
  have hr:=hr hnb;obtain ⟨u,e,rfl,hu,-⟩:=hr;have er:Ay (2:Int).toNat ([] ++ [0,1]) ([]:List Int).length = rd:=ZQ;rw [er,ZP] at hu;have hu2:=hu (by decide);obtain ⟨rfl,hu3⟩:=hu2;have hk:=hu3.known;obtain ⟨a,b,rfl⟩:=hk;conv=>whnf
  refine ⟨rfl,_,bX (vs:=[int 2,.slice a _ _,.slice b _ _]) rfl rfl rfl,?_⟩;conv=>whnf
  exact ⟨(H3.next,_,_),⟨rfl,rfl,rfl,rfl,rfl,trivial⟩,⟨rfl,(gl1.trans g3).bH _,Hp.ak _ _,(hu3.mv.ext (aA.lay _ _)).bx⟩,rfl⟩
 rintro ⟨N4,by4,H3⟩ φ3 _ ⟨rfl,g3,a4,b4⟩;dsimp only at g3 a4 b4 ⊢;have g13:=g2.trans g3;have a1:=g13.at_ _ _ a1;have b1:=b1.ext g13;have v2:=v2.ext g3;have g1:=g1.trans g13;clear g2 g3 g13;conv=>whnf
 refine aC.cut (α:=Nat×List Value×Hp) (fun s=>[(1,ptr N1 0),(2,.slice aw 8 8),(3,int 0),(4,ptr N4 0),(5,int 0),(6,ptr s.1 0),(7,int 0)]) (fun s H=>s.2.2 = H∧aA H3 H∧H.at s.1 = some (.row 25 true s.2.1)∧Bx H s.2.1 tm.i) ?_ ?_
 ·conv=>whnf
  refine ⟨_,aI a1 b1.len,?_⟩;conv=>whnf
  refine aJ.mono (RB _ tm 2 0 _ (Bx.mv b1) um) ?_;rintro r H4 ⟨⟨-,hr⟩,g4⟩;have hnb:¬ IJ 2 0:=by unfold IJ; omega
  have hr:=hr hnb;obtain ⟨u,e,rfl,hu,-⟩:=hr;have er:(tm.every (2:Int).toNat (0:Int).toNat).form = tm:=Yn;rw [er] at hu;have hu2:=hu (by decide);obtain ⟨rfl,hu3⟩:=hu2;have hk:=hu3.known;obtain ⟨a,b,rfl⟩:=hk;conv=>whnf
  refine ⟨rfl,_,bX (vs:=[int 2,.slice a _ _,.slice b _ _]) rfl rfl rfl,?_⟩;conv=>whnf
  exact ⟨(H4.next,_,_),⟨rfl,rfl,rfl,rfl,rfl,rfl,rfl,trivial⟩,⟨rfl,g4.bH _,Hp.ak _ _,(hu3.mv.ext (aA.lay _ _)).bx⟩,rfl⟩
 rintro ⟨N6,by6,H4⟩ φ4 _ ⟨rfl,g4,a6,b6⟩;dsimp only at g4 a6 b6 ⊢;have a1:=g4.at_ _ _ a1;have b1:=b1.ext g4;have a4:=g4.at_ _ _ a4;have b4:=b4.ext g4;have v2:=v2.ext g4;have g1:=g1.trans g4;clear g4;conv=>whnf
 refine aC.cut (α:=Hp) (fun s=>[(1,ptr N1 0),(2,.slice aw 8 8),(3,int 0),(4,ptr N4 0),(5,int 0),(6,ptr N6 0),(7,int 0),(8,int 1),(9,.bool true),(10,int 0)]) (fun s H=>s = H∧aA H4 H) ?_ ?_
 ·conv=>whnf
  refine ⟨_,aI a1 b1.len,?_⟩;conv=>whnf
  refine aJ.mono (Vv _ tm 1 _ (Bx.mv b1) um) ?_;rintro r H5 ⟨⟨-,hr⟩,g5⟩;have hr:=hr (by omega);rw [ZR] at hr;obtain ⟨b,rfl,hb⟩:=hr
  cases b with
  | false=>exact absurd (by omega) hb.f
  | true =>
   conv=>whnf
   exact ⟨_,⟨rfl,rfl,rfl,rfl,rfl,rfl,rfl,rfl,rfl,rfl,trivial⟩,⟨rfl,g5⟩,rfl⟩
 rintro H5 φ5 _ ⟨rfl,g5⟩;have a1:=g5.at_ _ _ a1;have b1:=b1.ext g5;have a4:=g5.at_ _ _ a4;have b4:=b4.ext g5;have a6:=g5.at_ _ _ a6;have b6:=b6.ext g5;have v2:=v2.ext g5;have g1:=g1.trans g5;clear g5;conv=>whnf
 refine aC.cut (α:=Hp) (fun s=>[(1,ptr N1 0),(2,.slice aw 8 8),(3,int 0),(4,ptr N4 0),(5,int 0),(6,ptr N6 0),(7,int 0),(8,int 1),(9,.bool true),(10,int 0),(11,int 0),(12,int 2),(13,.bool true),(14,int 0)]) (fun s H=>s = H∧aA H5 H) ?_ ?_
 ·conv=>whnf
  refine ⟨_,aI a4 b4.len,?_⟩;conv=>whnf
  refine aJ.mono (IK _ rd _ (Bx.mv b4) abw) ?_;rintro r H6 ⟨hr,g6⟩;have hr:=ZT hr;subst hr;conv=>whnf
  exact ⟨_,⟨rfl,rfl,rfl,rfl,rfl,rfl,rfl,rfl,rfl,rfl,rfl,rfl,rfl,rfl,trivial⟩,⟨rfl,g6⟩,rfl⟩
 rintro H6 φ6 _ ⟨rfl,g6⟩;have a1:=g6.at_ _ _ a1;have b1:=b1.ext g6;have a4:=g6.at_ _ _ a4;have b4:=b4.ext g6;have a6:=g6.at_ _ _ a6;have b6:=b6.ext g6;have v2:=v2.ext g6;have g1:=g1.trans g6;clear g6;conv=>whnf
 repeat (refine aC.go ?_; conv=>whnf)
 refine ⟨_,aI a1 b1.len,?_⟩;conv=>whnf
 refine aJ.mono (Da _ tm.i _ (Bx.mv b1) (je um)) ?_;rintro r H7 ⟨hw,g7⟩;rw [Yo] at hw;have hk:=hw.known;obtain ⟨p1,q1,rfl⟩:=hk;conv=>whnf
 refine aJ.mono (E5 _) ?_;rintro r H8 ⟨hw2,g8⟩;have hk:=hw2.known;obtain ⟨p2,q2,rfl⟩:=hk;conv=>whnf
 refine aJ.mono (tH _ _ tm.i tm.i _ (hw.mv.ext g8) hw2.mv rfl (by decide) um.lens.2.2) ?_;rintro _ H9 ⟨⟨x,rfl,hx⟩,g9⟩
 cases x with
 | false=>exact absurd rfl hx.f
 | true =>
  have g69:=(g7.trans g8).trans g9;have a1:=g69.at_ _ _ a1;have b1:=b1.ext g69;have a4:=g69.at_ _ _ a4;have b4:=b4.ext g69;have a6:=g69.at_ _ _ a6;have b6:=b6.ext g69;have v2:=v2.ext g69;have g1:=g1.trans g69;clear g69 g7 g8 g9 hw hw2 hx;conv=>whnf
  refine mO rfl ?_;conv=>whnf
  have gl1:aA H9 (H9.lay (.row 3 true [int 0,int 1,int 1,int 0,int 1,int 0,int 0,int 1])):=aA.lay _ _;have vb:View (H9.lay (.row 3 true [int 0,int 1,int 1,int 0,int 1,int 0,int 0,int 1])) (slc H9.next 0 8 8) [0,1,1,0,1,0,0,1]:=zi (ls:=[0,1,1,0,1,0,0,1]) (Hp.ak _ _) rfl;refine aJ.mono (Vu _ _ [0,1,1,0,1,0,0,1] [0,1,1,0,1,0,0,1] _ (v2.ext gl1) vb (by simp)) ?_;rintro _ _ ⟨⟨x,rfl,hx⟩,rfl⟩
  cases x with
  | false=>exact absurd rfl hx.f
  | true =>
   conv=>whnf
   refine mO rfl ?_;conv=>whnf
   have a4:=gl1.at_ _ _ a4;have b4:=b4.ext gl1;have a6:=gl1.at_ _ _ a6;have b6:=b6.ext gl1;have g1:=g1.trans gl1;clear vb v2 hx gl1 a1 b1;refine ⟨_,aI a4 b4.len,?_⟩;conv=>whnf
   refine aJ.mono (Da _ rd.i _ (Bx.mv b4) (je abw)) ?_;rintro r H11 ⟨hw,g11⟩;rw [aby] at hw;have hk:=hw.known;obtain ⟨p1,q1,rfl⟩:=hk;conv=>whnf
   have h1:=Hp.ak H11 (.row 3 true [int 0,int 0,int 1]);have m1:(H11.lay (.row 3 true [int 0,int 0,int 1])).next = H11.next + 1:=Hp.bF _ _;have ad8:∃ A,H11.lay (.row 3 true [int 0,int 0,int 1]) = A:=⟨_,rfl⟩;have gA:∀ o1 o2 o3 o4 o5,aA H11 (((((H11.lay o1).lay o2).lay o3).lay o4).lay o5):=fun _ _ _ _ _=>((((aA.lay _ _).bH _).bH _).bH _).bH _;refine aJ.mono (tH _ _ rd.i rd.i _ ?_ ?_ rfl (by decide) abw.lens.2.2) ?_
   ·exact hw.mv.ext (gA _ _ _ _ _)
   ·exact acN (Hp.bg _ (Hp.bg _ (Hp.bg _ (Hp.bg _ (Hp.ak _ _))))) (Hp.bg _ (Hp.bg _ (Hp.bg _ (Hp.ak _ _)))) (Hp.bg _ (Hp.bg _ (Hp.ak _ _))) (Hp.bg _ (Hp.ak _ _)) (Hp.ak _ _)
   rintro _ H12 ⟨⟨x,rfl,hx⟩,g12⟩
   cases x with
   | false=>exact absurd rfl hx.f
   | true =>
    have g69:=(g11.trans (gA _ _ _ _ _)).trans g12;have a6:=g69.at_ _ _ a6;have b6:=b6.ext g69;have g1:=g1.trans g69;clear g69 g11 gA g12 hx hw ad8 h1 m1;conv=>whnf
    refine mO rfl ?_;conv=>whnf
    refine ⟨_,aI a6 b6.len,?_⟩;conv=>whnf
    refine aJ.mono (Da _ tm.i _ (Bx.mv b6) (je um)) ?_;rintro r H13 ⟨hw,g13⟩;rw [Yo] at hw;have hk:=hw.known;obtain ⟨p3,q3,rfl⟩:=hk;conv=>whnf
    refine aJ.mono (E5 _) ?_;rintro r H14 ⟨hw2,g14⟩;have hk:=hw2.known;obtain ⟨p4,q4,rfl⟩:=hk;conv=>whnf
    refine aJ.mono (tH _ _ tm.i tm.i _ (hw.mv.ext g14) hw2.mv rfl (by decide) um.lens.2.2) ?_;rintro _ H15 ⟨⟨x,rfl,hx⟩,g15⟩
    cases x with
    | false=>exact absurd rfl hx.f
    | true =>
     have g1:=((g1.trans g13).trans g14).trans g15;conv=>whnf
     refine mO rfl ?_;conv=>whnf
     refine mO rfl ?_;conv=>whnf
     refine mO rfl ?_;conv=>whnf
     refine mO rfl ?_;conv=>whnf
     refine mO rfl ?_;conv=>whnf
     have me:MV H15 (.agg ⟨[int 0,aN,aN]⟩) ⟨0,[],[]⟩:=⟨aN,aN,rfl,Built.view (h0:=H15) (e:=3) (.inl ⟨rfl,rfl⟩),Mat.nil _⟩;refine aJ.mono (lg _ _ _ me (by simp) (by simp) (by simp [rw_])) ?_;rintro _ H16 ⟨⟨e,rfl,-,he⟩,g16⟩;have he:=he (fun k=>by have:=k.b2; dsimp only at this; omega);subst he;conv=>whnf
     refine mO rfl ?_;conv=>whnf
     repeat (refine aC.go ?_; conv=>whnf)
     exact ⟨rfl,g1.trans g16⟩
end
end Go.Proofs.Ytedneplaibmppaa
namespace Go.Proofs.Ytedneplaibmppaa
open Go.Rx Go.RowKit
abbrev InR (n:Int):Prop:=-9223372036854775808≤n∧n < 9223372036854775808
end Go.Proofs.Ytedneplaibmppaa
namespace Go.Proofs.Ytedneplaibmppaa
open Go.Rx Go.RowKit
theorem ML:Try.prog.underlying 3 = some (.int .i64):=Try.underlying3
theorem MN:Try.prog.underlying 22 = some (.slice 3):=Try.underlying22
theorem ZU:Try.prog.underlying 23 = some (.slice 22):=Try.underlying23
def fieldTy (i:Nat)(t:TypeId):Option TypeDesc→Option (TypeId×Nat)
 | some (.struct fs)=>(fs[i]?).map fun f=>(f.type,f.offset)
 | _=>none
theorem IV {t ft off i:Nat}(h:fieldTy i t (Try.prog.underlying t) = some (ft,off)){ts:List Tr}(hy:TyT Try.prog t ts):ts.length = Try.prog.cellsOf t∧TyT Try.prog ft ((ts.drop off).take (Try.prog.cellsOf ft)):=by
 cases hu:Try.prog.underlying t with
 | none=>rw [hu] at h; cases h
 | some d =>
  rw [hu] at h
  cases d with
  | struct fs =>
   have hf:=XL hu hy;unfold fieldTy at h;dsimp only at h
   cases hg:fs[i]? with
   | none=>rw [hg] at h; cases h
   | some f =>
    rw [hg] at h;cases h
    exact ⟨hf.1,hf.2 i f hg⟩
  | _=>cases h
theorem cells3:Try.prog.cellsOf 3 = 1:=by kernel_rfl
theorem TG:Try.prog.cellsOf 22 = 1:=by kernel_rfl
theorem ZV:Try.prog.cellsOf 23 = 1:=by kernel_rfl
theorem RS {ts:List Tr}{o:Nat}(h:o < ts.length):(ts.drop o).take 1 = [ts[o]]:=by
 rw [List.drop_eq_getElem_cons h]; rfl
theorem abz {h:Hp}{v:Value}{ts:List Tr}(k:qA h v (.ag ts)):∃ vs:List Value,v = .agg ⟨vs⟩∧vs.length = ts.length∧∀ (k:Nat) v t,vs[k]? = some v→ts[k]? = some t→qA h v t:=by
 cases k with
 | ag vs cs hl ht=>exact ⟨vs,rfl,hl,ht⟩
theorem num_inv {h:Hp}{v:Value}{n:Int}(k:qA h v (.num n)):v = int n:=by cases k; rfl
theorem TH {ts:List Tr}(hy:TyT Try.prog 25 ts):∃ M:jh,InR M.base∧Lens M∧∀ h v,qA h v (.ag ts)→MV h v M:=by
 have hmax:maxLen < 9223372036854775808:=by decide
 have f0:=IV (i:=0) (ft:=3) (off:=0) (by kernel_rfl) hy;have f1:=IV (i:=1) (ft:=22) (off:=1) (by kernel_rfl) hy;have f2:=IV (i:=2) (ft:=23) (off:=2) (by kernel_rfl) hy;have hl:ts.length = 3:=f0.1.trans (by kernel_rfl);have f0:=f0.2;have f1:=f1.2;have f2:=f2.2;rw [cells3,RS (by omega)] at f0;rw [TG,RS (by omega)] at f1;rw [ZV,RS (by omega)] at f2;obtain ⟨n,en,hn⟩:=XK ML f0;obtain ⟨l1,e1,m1,r1⟩:=Me MN cells3 ML f1;obtain ⟨L,e2,m2,r2⟩:=aa6 ZU TG MN cells3 ML f2;refine ⟨⟨n,l1,L⟩,hn,⟨by show l1.length < _; omega,by show L.length < _; omega,fun s=>?_⟩,fun h v k=>?_⟩
 ·show (rw_ L s).length < _;by_cases hs:s < L.length
  ·rw [Av hs];have:=(r2 _ (List.getElem_mem hs)).1;omega
  ·unfold rw_;rw [List.getD_eq_getElem?_getD,List.getElem?_eq_none (by omega)];simp
 obtain ⟨vs,rfl,hvl,hk⟩:=abz k
 match vs,hvl with
 | [v0,v1,v2],_ =>
 have k0:=hk 0 v0 _ rfl (List.getElem?_eq_getElem (by omega));have k1:=hk 1 v1 _ rfl (List.getElem?_eq_getElem (by omega));have k2:=hk 2 v2 _ rfl (List.getElem?_eq_getElem (by omega));rw [show ts[0] = .num n from List.cons.inj en |>.1] at k0;rw [e1] at k1;rw [e2] at k2;have:=num_inv k0;subst this;exact ⟨v1,v2,rfl,k1.view,k2.mat⟩
 | [],h | [_],h | [_,_],h | _ :: _ :: _ :: _ :: _,h=>simp [hl] at h
end Go.Proofs.Ytedneplaibmppaa
namespace Go.Proofs.Ytedneplaibmppaa
open Go.Rx Go.RowKit
theorem OkS.cut {m:Mac}(h:OkS m):Q9 m.i = m.i:=by
 have h1:=h.n12;have h2:=h.ok.vC;have h5:=h.b5;refine Zt (by show m.out.length≤13; omega) (by omega) fun l hl=>?_;obtain ⟨i,hi,rfl⟩:=List.getElem_of_mem hl;have:=h.ok.Vb (s:=i) (by omega);rw [Av hi] at this;omega
theorem jY.bx {h0 h:Hp}{cs:List Value}{M:jh}(k:jY h0 h (.agg ⟨cs⟩) M):Bx h cs M:=k.mv.bx
end Go.Proofs.Ytedneplaibmppaa
namespace Go.Proofs.Ytedneplaibmppaa
open Go.Rx Go.RowKit
namespace Mac
theorem Ok.ck {m:Mac}(h:m.Ok)(z:m.Zer)(b2:2≤m.base)(b5:m.base≤5)(n12:m.out.length≤12)(outs:∀ x ∈ m.out,0≤x∧x≤9):OkS m where
 ok:=h
 zer:=z
 ck:=by
  have hil:=h.vC;refine ⟨by show (2:Int)≤m.base; omega,by show (m.base:Int)≤5; omega,h.n1,n12,outs,hil,fun s hs=>?_⟩;have hs:s < m.out.length:=hs;have hr:=h.Vb hs;have g0:=m.XZ s;refine ⟨by show ((rw_ m.i.next s).length:Int) = (m.base:Int); omega,fun x hx=>?_,?_⟩
  ·obtain ⟨d,hd,rfl⟩:=List.getElem_of_mem hx;rw [← l9 hd,g0];have:=h.lt s d hs (by omega);show (0:Int)≤(m.nx s d:Int)∧(m.nx s d:Int) < (m.out.length:Int);omega
  ·rw [g0,Int.toNat_natCast];exact z s hs
theorem Yp {m:Mac}(h:m.Ok)(z:m.Zer):m.form.Zer:=Ep (rM h) (List.mem_of_getElem? (qj h h.n1)) h.b1 fun c hc=>by
 obtain ⟨i,hi,rfl⟩:=List.getElem_of_mem hc;rw [nO h] at hi;have e:=qj h hi;rw [List.getElem?_eq_getElem (by rw [nO h]; exact hi)] at e;injection e with e;rw [e,vB h hi h.b1,zZ h hi,zZ h (h.lt i 0 hi h.b1)];exact z i hi
theorem Vw {m:Mac}(h:m.Ok){P:Int→Prop}(q:∀ x ∈ m.out,P x):∀ x ∈ m.form.out,P x:=II (rM h) (List.mem_of_getElem? (qj h h.n1)) fun c hc=>by
 obtain ⟨i,hi,rfl⟩:=List.getElem_of_mem hc;rw [nO h] at hi;have e:=qj h hi;rw [List.getElem?_eq_getElem (by rw [nO h]; exact hi)] at e;injection e with e;rw [e,zZ h hi];have e2:m.o i = m.out[i]:=l9 hi;rw [e2];exact q _ (List.getElem_mem hi)
theorem Yq {m:Mac}(h:m.Ok)(z:m.Zer)(b2:2≤m.base)(b5:m.base≤5)(outs:∀ x ∈ m.out,0≤x∧x≤9)(n12:m.form.out.length≤12):OkS m.form:=(Zn h).ck (Yp h z) b2 b5 n12 (Vw h outs)
end Mac
end Go.Proofs.Ytedneplaibmppaa
namespace Go.Proofs.Ytedneplaibmppaa
open Go.Rx Go.RowKit
def ZW (M:jh):Prop:=M.out.length≤1000000∧M.next.length≤1000000∧∀ s,(rw_ M.next s).length≤1000000
abbrev no0:jh:=⟨0,[],[]⟩
theorem zk (h:Hp):MV h noM no0:=⟨aN,aN,rfl,Built.view (h0:=h) (e:=3) (.inl ⟨rfl,rfl⟩),Mat.nil _⟩
end Go.Proofs.Ytedneplaibmppaa
namespace Go.Proofs.Ytedneplaibmppaa
open Go.Rx Go.RowKit
def Slot (H:Hp)(N:Nat)(e:Int)(F:Mac):Prop:=∃ bx:List Value,bx.length = 3∧H.at N = some (.row 25 true bx)∧(e = 0∧F.out.length≤12∧Bx H bx F.i∨e≠0∧bx = [int 0,aN,aN])
theorem Slot.ext {H H':Hp}{N:Nat}{e:Int}{F:Mac}(g:aA H H')(k:Slot H N e F):Slot H' N e F:=by
 obtain ⟨bx,h1,h2,h3⟩:=k;refine ⟨bx,h1,g.at_ _ _ h2,?_⟩;rcases h3 with ⟨h3,h4,h5⟩ | h3
 ·exact .inl ⟨h3,h4,h5.ext g⟩
 ·exact .inr h3
theorem Slot.mv {H:Hp}{N:Nat}{e:Int}{F:Mac}(k:Slot H N e F):∃ bx:List Value,bx.length = 3∧H.at N = some (.row 25 true bx)∧fD 4 (.agg ⟨bx⟩) (.agg ⟨bx⟩) = true∧(e = 0→F.out.length≤12∧MV H (.agg ⟨bx⟩) F.i)∧(e≠0→MV H (.agg ⟨bx⟩) no0):=by
 obtain ⟨bx,h1,h2,h3⟩:=k;rcases h3 with ⟨h3,h4,h5⟩ | ⟨h3,rfl⟩
 ·exact ⟨bx,h1,h2,h5.same,fun _=>⟨h4,Bx.mv h5⟩,fun q=>absurd h3 q⟩
 ·exact ⟨_,h1,h2,vL _ _ _ _ _ _ _,fun q=>absurd q h3,fun _=>zk H⟩
end Go.Proofs.Ytedneplaibmppaa
namespace Go.Proofs.Ytedneplaibmppaa
open Go.Rx Go.RowKit
attribute [local irreducible] E iJ cellAt bJ storeAt callable dh dG dO findKey dZ bP Hp.at Hp.set Hp.lay dL cO setAt aJ dx bO dz Rnd gq fB gY Int.tmod Int.tdiv Int.fdiv
section
variable [bC]
attribute [local irreducible] sameAt
theorem mR (v:Value)(M:jh)(h:Hp)(hv:MV h v M):aJ E 36 [v] h (fun r h'=>(∃ x,r = .bool x∧bO x (M = no0))∧aA h h'):=by
 obtain ⟨bx,rfl,hbx⟩:=hv.box;obtain ⟨ao,an,co,cn,hcx⟩:=hbx.cx;refine enter36 (by simp) ?_;conv=>whnf
 refine aC.cut (α:=Hp) (fun _=>[(1,ptr h.next 0)]) (fun x H=>x = H∧aA h H∧H.at h.next = some (.row 25 true bx)) ?_ ?_
 ·conv=>whnf
  exact ⟨_,⟨rfl,trivial⟩,⟨rfl,aA.lay _ _,Hp.ak _ _⟩,rfl⟩
 rintro H φ1 _ ⟨rfl,gH,aX⟩;have kx:=hcx H h.next 25 gH aX;have x0:=kx.c0;have x1:=kx.c1;have x2:=kx.c2;conv=>whnf
 repeat (refine aC.go ?_; conv=>whnf)
 refine ⟨_,x0,?_⟩;conv=>whnf
 refine dJ (fun q1=>?_) (fun q1=>?_);rotate_left
 ·conv=>whnf
  repeat (refine aC.go ?_; conv=>whnf)
  exact ⟨⟨false,rfl,nX fun e=>q1 (by rw [e])⟩,gH⟩
 conv=>whnf
 refine ⟨_,x1,?_⟩;conv=>whnf
 refine dJ (fun q2=>?_) (fun q2=>?_);rotate_left
 ·conv=>whnf
  repeat (refine aC.go ?_; conv=>whnf)
  exact ⟨⟨false,rfl,nX fun e=>q2 (by rw [e]; rfl)⟩,gH⟩
 conv=>whnf
 refine ⟨_,x2,?_⟩;conv=>whnf
 refine dJ (fun q3=>?_) (fun q3=>?_);rotate_left
 ·conv=>whnf
  repeat (refine aC.go ?_; conv=>whnf)
  exact ⟨⟨false,rfl,nX fun e=>q3 (by rw [e]; rfl)⟩,gH⟩
 conv=>whnf
 repeat (refine aC.go ?_; conv=>whnf)
 refine ⟨⟨true,rfl,oJ ?_⟩,gH⟩;obtain ⟨a,b,c⟩:=M;dsimp only at q1 q2 q3;have e2:b = []:=List.eq_nil_of_length_eq_zero (by omega);have e3:c = []:=List.eq_nil_of_length_eq_zero (by omega);rw [q1,e2,e3]
end
end Go.Proofs.Ytedneplaibmppaa
namespace Go.Proofs.Ytedneplaibmppaa
open Go.Rx Go.RowKit
def acO (A B:jh)(e:Int):Prop:=(¬ OkI A∨¬ OkI B→e = 50)∧(OkI A→OkI B→(A.base≠B.base→e = 1)∧(A.base = B.base→e = 0))
attribute [local irreducible] E iJ cellAt bJ storeAt callable dh dG dO findKey dZ bP Hp.at Hp.set Hp.lay dL cO setAt aJ dx bO dz Rnd gq fB gY Int.tmod Int.tdiv Int.fdiv
section
variable [bC]
attribute [local irreducible] sameAt
theorem IW (va vb:Value)(A B:jh)(h:Hp)(ha:MV h va A)(hb:MV h vb B)(hA:ZW A)(hB:ZW B):aJ E 64 [va,vb] h (fun r h'=>(∃ e,r = int e∧acO A B e)∧aA h h'):=by
 obtain ⟨bxa,rfl,hxa⟩:=ha.box;obtain ⟨bxb,rfl,hxb⟩:=hb.box;obtain ⟨aoa,ana,coa,cna,RD⟩:=hxa.cx;obtain ⟨aob,anb,cob,cnb,Vr⟩:=hxb.cx;refine enter64 (by simp) ?_;conv=>whnf
 refine aC.cut (α:=Hp) (fun _=>[(2,ptr h.next 0),(3,ptr (h.next + 1) 0)]) (fun x H=>x = H∧aA h H∧H.at h.next = some (.row 25 true bxa)∧H.at (h.next + 1) = some (.row 25 true bxb)) ?_ ?_
 ·conv=>whnf
  have n1:(h.lay (.row 25 true bxa)).next = h.next + 1:=Hp.bF _ _;exact ⟨_,⟨rfl,congrArg (fun k=>ptr k 0) n1,trivial⟩,⟨rfl,(aA.lay _ _).bH _,Hp.bg _ (Hp.ak _ _),eB n1 (Hp.ak _ _)⟩,rfl⟩
 rintro H φ1 _ ⟨rfl,gH,aX,aY⟩;conv=>whnf
 repeat (refine aC.go ?_; conv=>whnf)
 refine ⟨_,aI aX hxa.len,?_⟩;conv=>whnf
 refine aJ.mono (lg _ A _ (Bx.mv (hxa.ext gH)) hA.1 hA.2.1 hA.2.2) ?_;rintro r H2 ⟨⟨e,rfl,he0,he5⟩,g2⟩;have gh2:=gH.trans g2;by_cases kA:OkI A;rotate_left
 ·have:=he5 kA;subst this;conv=>whnf
  repeat (refine aC.go ?_; conv=>whnf)
  refine mO (by omega) ?_;conv=>whnf
  repeat (refine aC.go ?_; conv=>whnf)
  exact ⟨⟨50,rfl,fun _=>rfl,fun q=>absurd q kA⟩,gh2⟩
 have:=he0 kA;subst this;conv=>whnf
 repeat (refine aC.go ?_; conv=>whnf)
 refine Ag (by omega) ?_;conv=>whnf
 repeat (refine aC.go ?_; conv=>whnf)
 refine ⟨_,aI (g2.at_ _ _ aY) hxb.len,?_⟩;conv=>whnf
 refine aJ.mono (lg _ B _ (Bx.mv (hxb.ext gh2)) hB.1 hB.2.1 hB.2.2) ?_;rintro r H3 ⟨⟨e,rfl,he0,he5⟩,g3⟩;have gh3:=gh2.trans g3;by_cases kB:OkI B;rotate_left
 ·have:=he5 kB;subst this;conv=>whnf
  repeat (refine aC.go ?_; conv=>whnf)
  refine mO (by omega) ?_;conv=>whnf
  repeat (refine aC.go ?_; conv=>whnf)
  exact ⟨⟨50,rfl,fun _=>rfl,fun _ q=>absurd q kB⟩,gh3⟩
 have:=he0 kB;subst this;have g23:=g2.trans g3;have x0:=(RD H3 h.next 25 gh3 (g23.at_ _ _ aX)).c0;have y0:=(Vr H3 (h.next + 1) 25 gh3 (g23.at_ _ _ aY)).c0;conv=>whnf
 repeat (refine aC.go ?_; conv=>whnf)
 refine Ag (by omega) ?_;conv=>whnf
 repeat (refine aC.go ?_; conv=>whnf)
 refine ⟨_,x0,?_⟩;conv=>whnf
 refine ⟨_,y0,?_⟩;conv=>whnf
 refine dJ (fun hne=>?_) (fun heq=>?_)
 ·conv=>whnf
  repeat (refine aC.go ?_; conv=>whnf)
  exact ⟨⟨1,rfl,fun q=>absurd q (by simp [kA,kB]),fun _ _=>⟨fun _=>rfl,fun q=>absurd q hne⟩⟩,gh3⟩
 ·conv=>whnf
  repeat (refine aC.go ?_; conv=>whnf)
  exact ⟨⟨0,rfl,fun q=>absurd q (by simp [kA,kB]),fun _ _=>⟨fun q=>absurd q heq,fun _=>rfl⟩⟩,gh3⟩
end
end Go.Proofs.Ytedneplaibmppaa
namespace Go.Proofs.Ytedneplaibmppaa
open Go.Rx Go.RowKit
theorem ZW.lens {M:jh}(h:ZW M):Lens M:=⟨by have:=h.1; omega,by have:=h.2.1; omega,fun s=>by have:=h.2.2 s; omega⟩
end Go.Proofs.Ytedneplaibmppaa
namespace Go.Proofs.Ytedneplaibmppaa
open Go.Rx Go.RowKit
abbrev gb (l:List Bool)(i:Nat):Bool:=l.getD i false
theorem abA (l:List Bool)(i j:Nat)(h:gb l j = true):gb (l.set i true) j = true:=by
 unfold gb at *;rw [List.getD_eq_getElem?_getD] at *;by_cases e:i = j
 ·subst e;by_cases hi:i < l.length
  ·rw [List.getElem?_set_self hi]; rfl
  ·rw [List.getElem?_eq_none (by omega)] at h; cases h
 ·rw [List.getElem?_set_ne e]; exact h
theorem ZX (l:List Bool)(i:Nat)(h:i < l.length):gb (l.set i true) i = true:=by
 unfold gb;rw [List.getD_eq_getElem?_getD,List.getElem?_set_self h]; rfl
structure Rk (F:Mac) (k:Nat) (ms:List Bool):Prop where
 len:ms.length = F.out.length
 all:∀ w,Mac.Wd F.base w→w.length≤k→gb ms (F.run 0 w) = true
def Nk (F:Mac)(k u:Nat):Prop:=∃ w,Mac.Wd F.base w∧w.length≤k∧F.run 0 w = u
theorem Rk.set {F:Mac}{k:Nat}{ms:List Bool}(h:Rk F k ms)(i:Nat):Rk F k (ms.set i true):=⟨by rw [List.length_set]; exact h.len,fun w hw hk=>abA _ _ _ (h.all w hw hk)⟩
theorem Rk.start {F:Mac}(hn:1≤F.out.length):Rk F 0 ((List.replicate F.out.length false).set 0 true):=⟨by simp,fun w hw hk=>by
 have:w = []:=List.eq_nil_of_length_eq_zero (by omega);subst this;exact ZX _ 0 (by simp; omega)⟩
theorem Rk.step {F:Mac}(hm:F.Ok){k:Nat}{ms:List Bool}(h:Rk F k ms)(hall:∀ u,u < F.out.length→Nk F k u→∀ d,d < F.base→gb ms (F.nx u d) = true):Rk F (k + 1) ms:=⟨h.len,fun w hw hk=>by
 rcases List.eq_nil_or_concat w with rfl | ⟨v,d,rfl⟩
 ·exact h.all [] hw (Nat.zero_le _)
 ·have hv:Mac.Wd F.base v:=fun x hx=>hw x (by simp [hx]);rw [List.concat_eq_append,List.length_append,List.length_singleton] at hk;rw [List.concat_eq_append,O7];exact hall _ (hm.run hm.n1 hv) ⟨v,hv,by omega,rfl⟩ d (hw d (by simp))⟩
structure SM (h:Hp) (r:Nat) (ms:List Bool) (H:Hp):Prop where
 at_:H.at r = some (.row 4 true (ms.map .bool))
 gr:aA h H
 hr:h.next≤r
theorem SM.put {h:Hp}{r:Nat}{ms:List Bool}{H:Hp}(k:SM h r ms H)(ms':List Bool):SM h r ms' (H.set r (.row 4 true (ms'.map .bool))):=⟨Hp.bB _ (Hp.aU k.at_),k.gr.bQ _ k.hr,k.hr⟩
end Go.Proofs.Ytedneplaibmppaa
namespace Go.Proofs.Ytedneplaibmppaa
open Go.Rx Go.RowKit
theorem aaw {n:Int}(h:0≤n∧n < 256):dz .u8 n n:=by
 unfold dz jW IntKind.wrap;simp [IntKind.signed,IntKind.bits];omega
def tx (n:Nat):List UInt8:=[UInt8.ofNat (n % 256),UInt8.ofNat (n / 256),44]
theorem Vx (h:Hp)(a b:Nat)(ha:a < 256)(hb:b < 256)(r:Nat)(hr:h.at r = some (.row 5 true [.int .u8 a,.int .u8 b,.int .u8 44])):pR E h 155 9 (slc r 0 3 3) = .val (.string ⟨⟨[UInt8.ofNat a,UInt8.ofNat b,44]⟩⟩) h:=by
 have hd:dP 1 (slc r 0 3 3) = false:=rfl;have hb_:(isBytes E 155 && isStr E 9) = true:=by kernel_rfl
 have he:dh h 1 3 (slc r 0 3 3) = some [.int .u8 a,.int .u8 b,.int .u8 44]:=aI hr rfl;unfold pR;rw [hd];show q8 E h 155 9 (slc r 0 3 3) = _;unfold q8;show (match isBytes E 155 && isStr E 9 with | true=>(match BP (dh h 1 3 (slc r 0 3 3)) with | some bs=>fV.val (.string ⟨⟨bs⟩⟩) h | none=>.fail) | false=>.fail) = _;rw [hb_,he];rfl
attribute [local irreducible] E iJ cellAt bJ storeAt callable dh dG dO findKey dZ bP Hp.at Hp.set Hp.lay dL cO setAt aJ dx bO dz Rnd gq fB gY Int.tmod Int.tdiv Int.fdiv
section
variable [bC]
attribute [local irreducible] sameAt
theorem IX (v:Value)(l:List Int)(h:Hp)(hv:View h v l)(hl:l.length≤1000000)(hb:∀ x ∈ l,0≤x∧x≤1000000):aJ E 82 [v] h (fun r h'=>r = int (l.foldl max 0 + 1)∧h' = h):=by
 obtain ⟨aa,ca,rfl⟩:=hv.known;refine enter82 (by simp) ?_;conv=>whnf
 repeat (refine aC.go ?_; conv=>whnf)
 refine bT (α:=Nat) (fun i=>[(4,int i),(3,int ((l.take i).foldl max 0)),(0,.slice aa l.length ca)]) (fun _=>h) (fun i=>i≤l.length∧0≤(l.take i).foldl max 0∧(l.take i).foldl max 0≤1000000) (fun i=>l.length - i) 0 ⟨Nat.zero_le _,by simp,by simp⟩ ⟨rfl,rfl,rfl,trivial⟩ (Hp.Le.refl _) ?_;rintro i φ1 ⟨hi,h0,h1⟩;conv=>whnf
 repeat (refine aC.go ?_; conv=>whnf)
 refine dJ (fun hlt=>?_) (fun hlt=>?_);rotate_left
 ·have:i = l.length:=by omega
  subst this;rw [List.take_length] at *;conv=>whnf
  repeat (refine aC.go ?_; conv=>whnf)
  refine ⟨(l.foldl max 0 + 1),wie (by omega) (by omega),?_⟩;conv=>whnf
  repeat (refine aC.go ?_; conv=>whnf)
  exact ⟨rfl,rfl⟩
 have hi':i < l.length:=by omega
 have hc:=View.iI hv hi';obtain ⟨r1,o1,sp1,ea,hsp1,-,hc1⟩:=hc;subst ea;have hx:=hb _ (List.getElem_mem hi');have e:(l.take (i + 1)).foldl max 0 = max ((l.take i).foldl max 0) (gl l i):=by
  rw [List.take_succ_eq_append_getElem hi',List.foldl_append,l9 hi']; rfl
 rw [← l9 hi'] at hx;conv=>whnf
 repeat (refine aC.go ?_; conv=>whnf)
 refine ⟨hsp1,⟨by omega,by omega⟩,?_⟩;conv=>whnf
 refine ⟨_,hc1,?_⟩;conv=>whnf
 repeat (refine aC.go ?_; conv=>whnf)
 refine ⟨((i + 1:Nat):Int),wie (by omega) (by omega),?_⟩;conv=>whnf
 refine Rnd.mk (i + 1) ⟨by omega,by rw [e]; omega,by rw [e]; omega⟩ (by show l.length - (i + 1) < l.length - i; omega) ⟨rfl,(FQ _ _).trans (congrArg int e.symm),rfl,trivial⟩ (Hp.Le.refl _) rfl
end
section
variable [bC]
attribute [local irreducible] kV sameAt
theorem Eu (n:Nat)(h:Hp)(hn:n < 65536):aJ E 99 [int n] h (fun r h'=>r = .string ⟨⟨tx n⟩⟩∧aA h h'):=by
 have em:=rG n 256;have ed:=CQ n 256;refine enter99 (by simp) ?_;conv=>whnf
 repeat (refine aC.go ?_; conv=>whnf)
 refine ⟨by omega,?_⟩;conv=>whnf
 refine ⟨((n % 256:Nat):Int),by rw [show ((n:Int).tmod 256) = ((n % 256:Nat):Int) from em]; exact aaw (by omega),?_⟩;conv=>whnf
 refine ⟨by omega,((n / 256:Nat):Int),wie ed (by omega),?_⟩;conv=>whnf
 refine ⟨((n / 256:Nat):Int),aaw (by omega),?_⟩;conv=>whnf
 refine pX (v:=.string ⟨⟨tx n⟩⟩) (h:=h.lay (.row 5 true [.int .u8 (n % 256:Nat),.int .u8 (n / 256:Nat),.int .u8 44])) ?_ ?_
 ·exact Vx _ _ _ (by omega) (by omega) _ (Hp.ak _ _)
 conv=>whnf
 repeat (refine aC.go ?_; conv=>whnf)
 exact ⟨rfl,aA.lay _ _⟩
end
end Go.Proofs.Ytedneplaibmppaa
