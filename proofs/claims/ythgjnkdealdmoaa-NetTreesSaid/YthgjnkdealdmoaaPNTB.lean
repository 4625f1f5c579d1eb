/- Contracts of the functions that PNTB comes to. -/
import Derived.Test.YthgjnkdealdmoaaPNTA
import Derived.Test.YthgjnkdealdmoaaNAwake
set_option maxRecDepth 100000
set_option maxHeartbeats 2000000
set_option linter.unusedVariables false
set_option linter.unusedSectionVars false
set_option linter.unusedSimpArgs false
namespace Go.Proofs.Ythgjnkdealdmoaa
open Go.Rx Go.RowKit
def bare (n:Nat):Hp:=⟨n,fun _=>none⟩
theorem bare_grows {n:Nat} {h:Hp} (hn:n≤h.next):Grows (bare n) h:=⟨hn,fun r o e=>by
 unfold Hp.at bare at e
 dsimp only at e
 split at e <;> cases e⟩
def trL (P:List (Int×Int)):Nat→List Int
 | 0=>[]
 | k + 1=>if trB P k = true then trL P k ++ [(k:Int)] else trL P k
theorem trL_len (P:List (Int×Int)):∀ k,(trL P k).length≤k
 | 0=>Nat.le_refl _
 | k + 1=>by
  have:=trL_len P k
  unfold trL
  split
  ·rw [List.length_append]; simp; omega
  ·omega
theorem trL_mem (P:List (Int×Int)) {x:Int}:∀ k,x ∈ trL P k→∃ s:Nat,x = s∧s < k∧trB P s = true
 | 0,h=>by cases h
 | k + 1,h=>by
  unfold trL at h
  split at h
  ·rename_i hb
   rcases List.mem_append.1 h with h | h
   ·obtain ⟨s,e,l,t⟩:=trL_mem P k h
    exact ⟨s,e,by omega,t⟩
   ·have:x = k:=by simpa using h
    exact ⟨k,this,by omega,hb⟩
  ·obtain ⟨s,e,l,t⟩:=trL_mem P k h
   exact ⟨s,e,by omega,t⟩
theorem trL_has (P:List (Int×Int)) {s:Nat} (hb:trB P s = true):∀ k,s < k→(s:Int) ∈ trL P k
 | 0,h=>by omega
 | k + 1,h=>by
  unfold trL
  by_cases e:s = k
  ·subst e; rw [if_pos hb]; simp
  ·have:=trL_has P hb k (by omega)
   split
   ·exact List.mem_append_left _ this
   ·exact this
structure RT (h0 H:Hp) (C:Nat) (v:Value) (l:List Int):Prop where
 next:h0.next + 1≤H.next
 at_:∀ r o,r≠C→h0.at r = some o→H.at r = some o
 cell:H.at C = some (.row 49 true [v])
 built:Built (bare (h0.next + 1)) H 3 v l
theorem RT.ext {h0 H H2:Hp} {C:Nat} {v:Value} {l:List Int} (k:RT h0 H C v l) (g:Grows H H2):RT h0 H2 C v l :=
 ⟨Nat.le_trans k.next g.next,fun r o hr e=>g.at_ _ _ (k.at_ r o hr e),g.at_ _ _ k.cell,k.built.ext g⟩
theorem Built.off {b H:Hp} {v:Value} {l:List Int} (k:Built b H 3 v l) {r:Nat} (hr:r < b.next):∀ n c,v≠slc r 0 n c:=by
 intro n c e
 subst e
 have hlt:=Built.ad_lt k r (ad_slc _ _ _ _)
 omega
theorem RT.keep {h0 H H2:Hp} {C:Nat} {v:Value} {l:List Int} (k:RT h0 H C v l) (hC:C < h0.next) (kp:Keeps h0.next H H2):RT h0 H2 C v l:=by
 refine ⟨by rw [kp.next]; exact k.next,fun r o h1 e=>kp.at_ _ _ (by have:=Hp.lt_of_at e; omega) (k.at_ r o h1 e),kp.at_ _ _ (by omega) k.cell,?_⟩
 refine Built.kx (v:=slc h0.next 0 0 0) k.built (Kx.keeps kp) ?_
 intro r e1 e2
 have e1:h0.next = r:=Option.some.inj e1
 have:=(Built.ad_lt k.built r e2).1
 have:h0.next + 1≤r:=this
 omega
theorem RT.app {h0 H H2:Hp} {C:Nat} {v v':Value} {l l':List Int} (k:RT h0 H C v l) (hC:C < h0.next) (hb:Built (bare (h0.next + 1)) H2 3 v' l') (hn:Grows (bare (h0.next + 1)) H2) (keep:∀ r o,H.at r = some o→(∀ n c,v≠slc r 0 n c)→H2.at r = some o) :
  H2.at C = some (.row 49 true [v])∧RT h0 (H2.set C (.row 49 true [v'])) C v' l':=by
 have hc:=keep C _ k.cell (Built.off k.built (by show C < h0.next + 1; omega))
 refine ⟨hc,⟨by rw [Hp.next_set]; exact hn.next,fun r o h1 e=>?_,Hp.at_set_self _ (Hp.lt_of_at hc),?_⟩⟩
 ·rw [Hp.at_set_ne _ h1]
  exact keep r o (k.at_ r o h1 e) (Built.off k.built (by show r < h0.next + 1; have:=Hp.lt_of_at e; omega))
 ·refine Built.kx (v:=slc C 0 0 0) hb (Kx.set H2 C _) ?_
  intro r e1 e2
  have e1:C = r:=Option.some.inj e1
  have:=(Built.ad_lt hb r e2).1
  have:h0.next + 1≤r:=this
  omega
theorem RT.grows {h h0 H:Hp} {C:Nat} {v:Value} {l:List Int} (k:RT h0 H C v l) (g:Grows h h0) (hC:h.next≤C):Grows h H :=
 ⟨by have:=g.next; have:=k.next; omega,fun r o e=>k.at_ r o (by have:=Hp.lt_of_at e; omega) (g.at_ _ _ e)⟩
theorem finP_two {φ:Rx.Frame} {h:Hp} {a b:Nat} {v w:Value} {Q:Value→Hp→Prop} (ha:φ a = v) (hb:φ b = w) (hu:isUndef v = false) (hw:isUndef w = false) (hq:Q (.tuple ⟨[v,w]⟩) h):finP E [.tmp a,.tmp b] ⟨φ,h,[]⟩ Q:=by
 have e:resultsφ E φ h [.tmp a,.tmp b] = some [v,w]:=by
  unfold resultsφ resultφ
  dsimp only
  rw [ha,hu]
  dsimp only
  unfold resultsφ resultφ
  dsimp only
  rw [hb,hw]
  rfl
 show (match resultsφ E φ h [.tmp a,.tmp b] with | some vs=>Q (tupledφ vs) h | none=>False)
 rw [e]
 exact hq
theorem Built.def_ {b H:Hp} {v:Value} {l:List Int} (k:Built b H 3 v l):isUndef v = false:=by
 rcases k with ⟨rfl,_⟩ | ⟨r,rfl,_⟩ <;> rfl
attribute [local irreducible] E idxN cellAt cellsAt storeAt callable helems hmoved lookIn findKey keyOk hentries Hp.at Hp.set Hp.lay arBits hupdated setAt CallP YieldP BoolOf IsWrap Rnd LoopP AppP CutP Int.tmod Int.tdiv Int.fdiv
section
variable [Unknowns]
attribute [local irreducible] ResP sameAt flat finP
theorem Trees_spec (n:Nat) (P:List (Int×Int)) (hP:NetOk n P) (hl:P.length≤9) (v:Value) (h:Hp) (hv:PairsV h v P) :
  CallP E 44 [int n,v] h (fun r h'=>(∃ t,r = .tuple ⟨[t,int 0]⟩∧View h' t (trL P (2 ^ P.length))∧(∃ b:Hp,h.next≤b.next∧Built b h' 3 t (trL P (2 ^ P.length))))∧Grows h h'):=by
 obtain ⟨av,cap,rfl,hcv⟩:=id hv
 have hp:=Nat.pow_le_pow_right (n:=2) (by omega) hl
 refine enter44 (by simp) ?_
 conv=>whnf
 repeat (refine SeqP.go ?_; conv=>whnf)
 refine CallP.mono (Check_spec n P hP hl _ h hv) ?_
 rintro r H1 ⟨rfl,g1⟩
 conv=>whnf
 repeat (refine SeqP.go ?_; conv=>whnf)
 refine cmpF (by omega) ?_
 conv=>whnf
 refine SeqP.cut (α:=Nat×Hp) (fun s=>[(7,ptr s.1 0),(1,.slice av P.length cap)]) (fun s H=>H = s.2∧s.2.at s.1 = some (.row 83 true [int n,.slice av P.length cap])∧Grows h s.2) ?_ ?_
 ·conv=>whnf
  refine ⟨rfl,_,storeAt_full (vs:=[int n,.slice av P.length cap]) (Hp.at_lay_self _ _) rfl rfl rfl,?_⟩
  conv=>whnf
  exact ⟨(H1.next,_),⟨rfl,rfl,trivial⟩,⟨rfl,Hp.at_set_self _ (Hp.lt_of_at (Hp.at_lay_self _ _)),(g1.then_lay _).then_set _ g1.next⟩,rfl⟩
 rintro ⟨D,_⟩ φ H2 ⟨rfl,aD,g2⟩
 dsimp only at aD g2 ⊢
 conv=>whnf
 refine SeqP.cut (α:=Nat×Hp) (fun s=>[(8,ptr s.1 0),(7,ptr D 0),(1,.slice av P.length cap)]) (fun s H=>H = s.2∧s.2.at s.1 = some (.row 49 true [.slice none 0 0])∧H2.next≤s.1∧Grows H2 s.2) ?_ ?_
 ·conv=>whnf
  exact ⟨(H2.next,_),⟨rfl,rfl,rfl,trivial⟩,⟨rfl,Hp.at_lay_self _ _,Nat.le_refl _,Grows.lay _ _⟩,rfl⟩
 rintro ⟨C,_⟩ φ H3 ⟨rfl,aC,nC,g3⟩
 dsimp only at aC nC g3 ⊢
 have hClt:=Hp.lt_of_at aC
 have hDlt:=Hp.lt_of_at aD
 have aD3:=g3.at_ _ _ aD
 have g03:=g2.trans g3
 have n2:=g2.next
 conv=>whnf
 refine SeqP.cutM (α:=Value) (fun _=>[(8,ptr C 0)]) (fun _=>[H3.next + 1]) (fun t H=>RT ((H3.lay (.row 3 true [int (P.length:Int)])).lay .noDefers) H C t (trL P (2 ^ P.length))) ?_ ?_
 ·conv=>whnf
  refine SeqP.go ?_
  conv=>whnf
  refine CallP.mono (sets_spec P.length H3) ?_
  rintro r _ ⟨rfl,rfl⟩
  conv=>whnf
  generalize hH4:H3.lay (.row 3 true [int (P.length:Int)]) = H4
  have aM:H4.at H3.next = some (.row 3 true [int (P.length:Int)]):=by rw [← hH4]; exact Hp.at_lay_self _ _
  have n4:H4.next = H3.next + 1:=by rw [← hH4]; exact Hp.next_lay _ _
  have g4:Grows H3 H4:=by rw [← hH4]; exact Grows.lay _ _
  have hlx:(H4.lay .noDefers).next = H3.next + 2:=by rw [Hp.next_lay,n4]
  refine range_goJ (fun hh=>hh.at H3.next = some (.row 3 true [int (P.length:Int)])) ((List.range (2 ^ P.length)).map gvN) (fun k hh=>∃ t,RT (H4.lay .noDefers) hh C t (trL P k)) (fun _=>False) can115 ?_ rfl (fun I S hJ h0 hit=>sets_iter P.length hl H3.next _ I S _ hJ h0 hit) ?_ ?_ ?_ ?_ ?_
  ·intro k hk
   simp [gvN]
  ·rintro k hh ⟨t,hk⟩
   exact hk.at_ _ _ (by omega) (Hp.at_lay_old _ aM)
  ·exact ⟨.slice none 0 0,Nat.le_of_eq (Hp.next_lay _ _).symm,fun r o _ e=>Hp.at_lay_old _ e,Hp.at_lay_old _ (Hp.at_lay_old _ (g4.at_ _ _ aC)),.inl ⟨rfl,rfl⟩⟩
  ·rintro k xs hget H5 hl5 ⟨t,hk⟩
   have hget2:=List.getElem?_eq_some_iff.1 hget
   obtain ⟨hkl,exs⟩:=hget2
   rw [List.length_map,List.length_range] at hkl
   rw [List.getElem_map,List.getElem_range] at exs
   subst exs
   have htl:=trL_len P k
   have htr:trL P (k + 1) = if trB P k = true then trL P k ++ [(k:Int)] else trL P k:=rfl
   generalize trL P k = tl at hk htl htr
   conv=>whnf
   refine bodyQ_go hl5 ?_
   intro BO hb2 eBO hbl hbk
   have hk2:=hk.keep (by omega) hbk
   clear hget hk
   have gh5:=hk2.grows ((g03.trans g4).then_lay _) (by omega)
   have aD5:=hk2.at_ D _ (by omega) (Hp.at_lay_old _ (g4.at_ _ _ aD3))
   conv=>whnf
   repeat (refine SeqP.go ?_; conv=>whnf)
   refine ⟨_,cellsAt_row aD5 (by simp),?_⟩
   conv=>whnf
   refine CallP.mono (isTree_spec n P hP hl k hkl _ hb2 (hv.ext gh5)) ?_
   rintro b h3 ⟨rfl,g3'⟩
   have k3:=hk2.ext g3'
   have bl3:=g3'.at_ _ _ hbl
   have hlC:C≠(H4.lay .noDefers).next:=by omega
   cases hpk:trB P k with
   | true =>
    rw [hpk,if_pos rfl] at htr
    conv=>whnf
    refine ⟨_,cellAt_row k3.cell rfl,?_⟩
    conv=>whnf
    have k4:=k3.ext (Grows.lay h3 (.row 3 true [int (k:Nat)]))
    refine AppP.ints k4.built (bare_grows k4.next) Elems.lay1 (by simp; omega) ?_
    intro v' h5 hb5 hg5 keep5
    have ka:=RT.app k4 (by omega) hb5 hg5 keep5
    obtain ⟨hc5,k5⟩:=ka
    have bl5:(h5.set C (.row 49 true [v'])).at (H4.lay .noDefers).next = some BO:=by
     rw [Hp.at_set_ne _ (fun x=>hlC x.symm)]
     exact keep5 _ _ (Hp.at_lay_old _ bl3) (Built.off k4.built (Nat.lt_succ_self _))
    have hb6:=hb5
    rcases hb6 with ⟨rfl,e⟩ | ⟨rr,rfl,hrr,xx,hat⟩
    ·simp at e
    conv=>whnf
    refine ⟨rfl,_,storeAt_row hc5 (by simp) rfl,?_⟩
    conv=>whnf
    refine ⟨by rw [← eBO]; exact bl5,?_⟩
    exact .inl ⟨rfl,Hp.at_set_self _ (Hp.lt_of_at bl5),_,by rw [htr]; exact k5.keep (by omega) (Keeps.set _ _ _)⟩
   | false =>
    rw [hpk,if_neg (by simp)] at htr
    conv=>whnf
    refine ⟨by rw [← eBO]; exact bl3,?_⟩
    exact .inl ⟨rfl,Hp.at_set_self _ (Hp.lt_of_at bl3),t,by rw [htr]; exact k3.keep (by omega) (Keeps.set _ _ _)⟩
  ·rintro h2 h3 ⟨t,hk⟩ hkp
   rw [List.length_map,List.length_range] at hk
   have hk3:=hk.keep (by omega) hkp
   exact ⟨t,⟨rfl,trivial⟩,hk3,by rw [n4]; rfl⟩
  ·intro h2 hF
   exact hF.elim
 rintro t φ H hk
 have hms:Marks (H3.next + 1) [H3.next + 1] H:=⟨by simp,fun d hd=>by
  have:d = H3.next + 1:=by simpa using hd
  subst this
  exact ⟨Nat.le_refl _,hk.at_ _ _ (by omega) (at_nx (r:=(H3.lay (.row 3 true [int (P.length:Int)])).next) (by rw [Hp.next_lay]) (Hp.at_lay_self _ _))⟩⟩
 have hud:=Built.def_ hk.built
 conv=>whnf
 repeat (refine SeqP.go ?_; conv=>whnf)
 refine ⟨_,cellAt_row hk.cell rfl,?_⟩
 conv=>whnf
 repeat (refine SeqP.go ?_; conv=>whnf)
 refine finP_marks hms ?_
 intro h3 n3 k3 k3'
 have gh:=hk.grows ((g03.then_lay _).then_lay _) (by omega)
 have hb3:Built (bare (((H3.lay (.row 3 true [int (P.length:Int)])).lay .noDefers).next + 1)) h3 3 t (trL P (2 ^ P.length)):=by
  refine Built.kx (v:=slc (H3.next + 1) 0 0 0) hk.built (fun r o ha e=>k3' r o (by simp; intro x; exact ha (by rw [x]; rfl)) e) ?_
  intro r e1 e2
  have e1:H3.next + 1 = r:=Option.some.inj e1
  have:=(Built.ad_lt hk.built r e2).1
  have:((H3.lay (.row 3 true [int (P.length:Int)])).lay .noDefers).next + 1≤r:=this
  rw [Hp.next_lay,Hp.next_lay] at this
  omega
 refine finP_two rfl rfl hud rfl ⟨⟨t,rfl,hb3.view,_,?_,hb3⟩,⟨by rw [n3]; exact gh.next,fun r o e=>k3 r o (by have:=Hp.lt_of_at e; have:=g03.next; omega) (gh.at_ r o e)⟩⟩
 show h.next≤((H3.lay (.row 3 true [int (P.length:Int)])).lay .noDefers).next + 1
 rw [Hp.next_lay,Hp.next_lay]
 have:=g03.next
 omega
end
end Go.Proofs.Ythgjnkdealdmoaa
namespace Go.Proofs.Ythgjnkdealdmoaa
open Go.Rx Go.RowKit
def exB (P:List (Int×Int)) (t e f:Nat):Bool:=(t.testBit f != t.testBit e) && trB P (t ^^^ 2 ^ e ^^^ 2 ^ f)
def actB (P:List (Int×Int)) (t e:Nat):Bool:=(List.range e).all fun f=>!exB P t e f
attribute [local irreducible] E idxN cellAt cellsAt storeAt callable helems hmoved lookIn findKey keyOk hentries Hp.at Hp.set Hp.lay arBits hupdated setAt CallP YieldP BoolOf IsWrap Rnd LoopP AppP CutP Int.tmod Int.tdiv Int.fdiv
section
variable [Unknowns]
attribute [local irreducible] ResP sameAt flat
theorem RTrees_spec (n:Nat) (P:List (Int×Int)) (hP:NetOk n P) (hl:P.length≤9) (v:Value) (h:Hp) (hv:PairsV h v P) :
  CallP E 45 [int n,v] h (fun r h'=>Built h h' 3 r (trL P (2 ^ P.length))∧Grows h h'):=by
 obtain ⟨av,cap,rfl,hcv⟩:=id hv
 have hp:=Nat.pow_le_pow_right (n:=2) (by omega) hl
 have hp1:=Nat.one_le_two_pow (n:=P.length)
 refine enter45 (by simp) ?_
 conv=>whnf
 refine SeqP.go ?_
 conv=>whnf
 refine SeqP.go ?_
 conv=>whnf
 refine SeqP.cut (α:=Value×Hp) (fun s=>[(5,s.1)]) (fun s H=>H = s.2∧Built h s.2 3 s.1 (trL P (2 ^ P.length))∧Grows h s.2) ?_ ?_
 ·conv=>whnf
  refine SeqP.go ?_
  conv=>whnf
  refine loop_inv (α:=Nat×Value×Hp) (fun s=>[(6,int s.1),(5,s.2.1),(0,int n),(1,.slice av P.length cap)]) (fun s=>s.2.2) (fun s=>s.1≤2 ^ P.length∧Built h s.2.2 3 s.2.1 (trL P s.1)∧Grows h s.2.2) (fun s=>2 ^ P.length - s.1) (0,.slice none 0 0,h) ⟨Nat.zero_le _,.inl ⟨rfl,rfl⟩,.refl _⟩ ⟨rfl,rfl,rfl,rfl,trivial⟩ (Hp.Le.refl _) ?_
  rintro ⟨k,t,H⟩ φ ⟨hk,hb,gk⟩
  dsimp only at hk hb gk ⊢
  conv=>whnf
  refine SeqP.go ?_
  conv=>whnf
  refine SeqP.go ?_
  conv=>whnf
  refine CallP.mono (Rall_spec P hl _ H (hv.ext gk)) ?_
  rintro r H ⟨rfl,rfl⟩
  conv=>whnf
  refine cmpB (fun c1=>?_) (fun c1=>?_)
  rotate_left
  ·conv=>whnf
   have:k = 2 ^ P.length:=by omega
   subst this
   exact ⟨(t,H),⟨rfl,trivial⟩,⟨rfl,hb,gk⟩,rfl⟩
  have hkl:k < 2 ^ P.length:=by omega
  have htl:=trL_len P k
  have htr:trL P (k + 1) = if trB P k = true then trL P k ++ [(k:Int)] else trL P k:=rfl
  generalize trL P k = tl at hb htl htr
  conv=>whnf
  refine SeqP.go ?_
  conv=>whnf
  refine SeqP.go ?_
  conv=>whnf
  refine CallP.mono (IsTree_spec n P hP hl k hkl _ H (hv.ext gk)) ?_
  rintro b h3 ⟨rfl,g3⟩
  have b3:=hb.ext g3
  have k3:=gk.trans g3
  cases hpk:trB P k with
  | true =>
   rw [hpk,if_pos rfl] at htr
   conv=>whnf
   refine AppP.ints (b3.ext (Grows.lay _ _)) (k3.then_lay _) Elems.lay1 (by simp; omega) ?_
   intro v' h5 hb5 hg5 keep5
   conv=>whnf
   refine ⟨_,wid (by omega),?_⟩
   conv=>whnf
   exact Rnd.mk (k + 1,v',h5) ⟨by show k + 1≤2 ^ P.length; omega,by rw [htr]; exact hb5,hg5⟩ (by show 2 ^ P.length - (k + 1) < 2 ^ P.length - k; omega) ⟨rfl,rfl,rfl,rfl,trivial⟩ (Hp.Le.refl _) rfl
  | false =>
   rw [hpk,if_neg (by simp)] at htr
   conv=>whnf
   refine ⟨_,wid (by omega),?_⟩
   conv=>whnf
   exact Rnd.mk (k + 1,t,h3) ⟨by show k + 1≤2 ^ P.length; omega,by rw [htr]; exact b3,k3⟩ (by show 2 ^ P.length - (k + 1) < 2 ^ P.length - k; omega) ⟨rfl,rfl,rfl,rfl,trivial⟩ (Hp.Le.refl _) rfl
 rintro ⟨t,_⟩ φ H ⟨rfl,hb,gk⟩
 dsimp only at hb gk ⊢
 rcases id hb with ⟨rfl,e⟩ | ⟨rr,rfl,hrr,xx,hat⟩
 ·conv=>whnf
  repeat (refine SeqP.go ?_; conv=>whnf)
  exact ⟨hb,gk⟩
 ·conv=>whnf
  repeat (refine SeqP.go ?_; conv=>whnf)
  exact ⟨hb,gk⟩
theorem intsL_spec (v w:Value) (l:List Int) (hl:l.length≤1000000) (h:Hp) (hv:Ints h v l) (hw:Ints h w l):CallP E 46 [v,w] h (fun r h'=>r = .bool true∧h' = h):=by
 obtain ⟨av,cv,rfl,hcv⟩:=id hv
 obtain ⟨aw,cw,rfl,hcw⟩:=id hw
 refine enter46 (by simp) ?_
 conv=>whnf
 repeat (refine SeqP.go ?_; conv=>whnf)
 refine cmpF (by omega) ?_
 conv=>whnf
 repeat (refine SeqP.go ?_; conv=>whnf)
 refine loop_inv (α:=Nat) (fun k=>[(5,int k),(0,.slice av l.length cv),(1,.slice aw l.length cw)]) (fun _=>h) (fun k=>k≤l.length) (fun k=>l.length - k) 0 (Nat.zero_le _) ⟨rfl,rfl,rfl,trivial⟩ (Hp.Le.refl _) ?_
 rintro k φ hk
 have hk:k≤l.length:=hk
 conv=>whnf
 repeat (refine SeqP.go ?_; conv=>whnf)
 refine cmpB (fun c1=>?_) (fun c1=>?_)
 rotate_left
 ·conv=>whnf
  repeat (refine SeqP.go ?_; conv=>whnf)
  exact ⟨rfl,rfl⟩
 have hk':k < l.length:=by omega
 obtain ⟨r,o,sp,rfl,hsp,p0⟩:=hcv k hk'
 obtain ⟨r',o',sp',rfl,hsp',q0⟩:=hcw k hk'
 have p1:cellAt h r (offAt o (k:Int).toNat 1) = some (int l[k]):=by rw [offAt_eq,show o + (k:Int).toNat * 1 = k + o by omega]; exact p0
 have q1:cellAt h r' (offAt o' (k:Int).toNat 1) = some (int l[k]):=by rw [offAt_eq,show o' + (k:Int).toNat * 1 = k + o' by omega]; exact q0
 conv=>whnf
 repeat (refine SeqP.go ?_; conv=>whnf)
 refine ⟨hsp,⟨by omega,by omega⟩,?_⟩
 conv=>whnf
 refine ⟨_,p1,?_⟩
 conv=>whnf
 refine ⟨hsp',⟨by omega,by omega⟩,?_⟩
 conv=>whnf
 refine ⟨_,q1,?_⟩
 conv=>whnf
 refine cmpF (by omega) ?_
 conv=>whnf
 refine ⟨_,wid (by omega),?_⟩
 conv=>whnf
 exact Rnd.mk (k + 1) (show k + 1≤l.length by omega) (by show l.length - (k + 1) < l.length - k; omega) ⟨rfl,rfl,rfl,trivial⟩ (Hp.Le.refl _) rfl
end
section
variable [Unknowns]
attribute [local irreducible] ResP DrP sameAt flat
theorem isActive_spec (n:Nat) (P:List (Int×Int)) (hP:NetOk n P) (hl:P.length≤9) (t:Nat) (ht:t < 2 ^ P.length) (e:Nat) (he:e < P.length) (v:Value) (h:Hp) (hv:PairsV h v P) :
  CallP E 89 [gval n v,int t,int e] h (fun r h'=>r = .bool (actB P t e)∧Grows h h'):=by
 obtain ⟨av,cap,rfl,hcv⟩:=id hv
 have hp1:=Nat.one_le_two_pow (n:=P.length)
 have hs9:=lt512 hl ht
 have hsg:=sameV_gval n av P.length cap
 have hex1:∃ H1,h.lay (.row 83 true [int n,.slice av P.length cap]) = H1:=⟨_,rfl⟩
 obtain ⟨H0,hH0⟩:=hex1
 have a83:H0.at h.next = some (.row 83 true [int n,.slice av P.length cap]):=by rw [← hH0]; exact Hp.at_lay_self _ _
 have g0:Grows h H0:=by rw [← hH0]; exact Grows.lay _ _
 have hsf:∀ {f:Nat},f < e→exB P t e f = true→actB P t e = false:=fun hk e1=>all_false hk (by rw [e1]; rfl)
 have hst:(∀ f,f < e→exB P t e f = false)→actB P t e = true:=fun e1=>all_true fun k hk=>by rw [e1 k hk]; rfl
 generalize actB P t e = A at hsf hst
 refine enter89 (by simp) ?_
 conv=>whnf
 refine SeqP.cut (α:=Unit) (fun _=>[(3,ptr h.next 0),(1,int t),(2,int e)]) (fun _ H=>H = H0) ?_ ?_
 ·conv=>whnf
  exact ⟨(),⟨rfl,rfl,rfl,trivial⟩,hH0,rfl⟩
 rintro _ φ H0 rfl
 conv=>whnf
 refine SeqP.go ?_
 conv=>whnf
 refine SeqP.go ?_
 conv=>whnf
 refine loop_inv (α:=Nat×Hp) (fun s=>[(9,int s.1),(8,int e),(3,ptr h.next 0),(1,int t),(2,int e)]) (fun s=>s.2) (fun s=>s.1≤e∧Grows H0 s.2∧∀ f,f < s.1→exB P t e f = false) (fun s=>e - s.1) (0,H0) ⟨Nat.zero_le _,.refl _,fun f hf=>absurd hf (Nat.not_lt_zero _)⟩ ⟨rfl,rfl,rfl,rfl,rfl,trivial⟩ (Hp.Le.refl _) ?_
 rintro ⟨f,H⟩ φ ⟨hf,gk,hall⟩
 dsimp only at hf gk hall ⊢
 conv=>whnf
 refine SeqP.go ?_
 conv=>whnf
 refine cmpB (fun c1=>?_) (fun c1=>?_)
 rotate_left
 ·conv=>whnf
  repeat (refine SeqP.go ?_; conv=>whnf)
  exact ⟨by rw [hst fun f' hf'=>hall f' (by omega)]; rfl,g0.trans gk⟩
 have hf':f < e:=by omega
 have hpe:=Nat.pow_lt_pow_right (a:=2) (by decide) he
 have hpf:=Nat.pow_lt_pow_right (a:=2) (by decide) (Nat.lt_trans hf' he)
 have hx1:t ^^^ 2 ^ e < 2 ^ P.length:=Nat.xor_lt_two_pow ht hpe
 have hx2:t ^^^ 2 ^ e ^^^ 2 ^ f < 2 ^ P.length:=Nat.xor_lt_two_pow hx1 hpf
 have ex1:=bits_xor (a:=t) (b:=2 ^ e) (by omega) (by have:=lt512 hl hpe; omega)
 have ex2:=bits_xor (a:=t ^^^ 2 ^ e) (b:=2 ^ f) (by have:=lt512 hl hx1; omega) (by have:=lt512 hl hpf; omega)
 have ex3:arBits .i64 .xor (arBits .i64 .xor (t:Int) ((2 ^ e:Nat):Int)) ((2 ^ f:Nat):Int) = ((t ^^^ 2 ^ e ^^^ 2 ^ f:Nat):Int):=by rw [ex1]; exact ex2
 have c0:cellsAt H h.next 0 2 = some [int n,.slice av P.length cap]:=cellsAt_row (gk.at_ _ _ a83) (by simp)
 have exd:exB P t e f = ((t.testBit f != t.testBit e) && trB P (t ^^^ 2 ^ e ^^^ 2 ^ f)):=rfl
 have nx:∀ {H':Hp},Grows H H'→exB P t e f = false→f + 1≤e∧Grows H0 H'∧∀ f',f' < f + 1→exB P t e f' = false:=fun g e1=>⟨by omega,gk.trans g,fun f' hf2=>by
  by_cases e2:f' = f
  ·rw [e2]; exact e1
  ·exact hall f' (by omega)⟩
 conv=>whnf
 refine SeqP.go ?_
 conv=>whnf
 refine SeqP.go ?_
 conv=>whnf
 refine SeqP.go ?_
 conv=>whnf
 refine SeqP.go ?_
 conv=>whnf
 refine CallP.mono (has_spec t f (by omega) (by omega) H) ?_
 rintro r H ⟨rfl,rfl⟩
 conv=>whnf
 refine CallP.mono (has_spec t e (by omega) (by omega) H) ?_
 rintro r H ⟨rfl,rfl⟩
 conv=>whnf
 refine drP_val (v:=.bool (t.testBit f != t.testBit e)) (h:=H) ?_ ?_
 ·show hval _ (aBin E .neq 4 _ _ (.bool _) (.bool _)) = _
  rw [bool_neq]
  rfl
 cases hd:(t.testBit f != t.testBit e) with
 | false =>
  rw [hd,Bool.false_and] at exd
  conv=>whnf
  refine ⟨?_,?_⟩
  rotate_left
  ·conv=>whnf
   refine ⟨_,wid (by omega),?_⟩
   conv=>whnf
   exact Rnd.mk (f + 1,H) (nx (.refl _) exd) (by show e - (f + 1) < e - f; omega) ⟨rfl,rfl,rfl,rfl,rfl,trivial⟩ (Hp.Le.refl _) rfl
  repeat' (first | exact True.intro | (refine And.intro ?_ ?_ <;> (conv=>whnf)))
  all_goals first
   | exact sameAt_val (h2:=_) rfl (sameV_int _)
   | exact sameAt_val (h2:=_) rfl (sameV_bool _)
   | exact sameAt_val (h2:=_) (congrArg (fun x=>hval _ (aggOf x)) c0) hsg
   | exact sameAt_val (h2:=_) (show hval _ (shK .i64 .shl 1 ((e:Nat):Int)) = _ from shl_val (by omega)) (sameV_int _)
   | exact sameAt_val (h2:=_) (show hval _ (shK .i64 .shl 1 ((f:Nat):Int)) = _ from shl_val (by omega)) (sameV_int _)
   | exact sameAt_val (h2:=_) (show hval _ (arK .i64 .xor _ _) = _ from rfl) (sameV_int _)
   | exact sameAt_val (h2:=_) (show hval _ (aBin E .neq 4 _ _ (.bool _) (.bool _)) = _ by rw [bool_neq,hd]; rfl) (sameV_bool _)
 | true =>
  rw [hd,Bool.true_and] at exd
  conv=>whnf
  refine ⟨_,c0,?_⟩
  conv=>whnf
  refine ⟨by omega,((2 ^ e:Nat):Int),shl_one (by omega),?_⟩
  conv=>whnf
  refine ⟨by omega,((2 ^ f:Nat):Int),shl_one (by omega),?_⟩
  conv=>whnf
  have hcall:=isTree_spec n P hP hl (t ^^^ 2 ^ e ^^^ 2 ^ f) hx2 _ H (hv.ext (g0.trans gk))
  rw [← ex3] at hcall
  refine CallP.mono hcall ?_
  rintro r H2 ⟨rfl,g2⟩
  cases hT:trB P (t ^^^ 2 ^ e ^^^ 2 ^ f) with
  | true =>
   rw [hT] at exd
   conv=>whnf
   refine ⟨?_,?_⟩
   rotate_left
   ·conv=>whnf
    repeat (refine SeqP.go ?_; conv=>whnf)
    exact ⟨by rw [hsf hf' exd]; rfl,(g0.trans gk).trans g2⟩
   repeat' (first | exact True.intro | (refine And.intro ?_ ?_ <;> (conv=>whnf)))
   all_goals first
    | exact sameAt_val (h2:=_) rfl (sameV_int _)
    | exact sameAt_val (h2:=_) rfl (sameV_bool _)
    | exact sameAt_val (h2:=_) (congrArg (fun x=>hval _ (aggOf x)) c0) hsg
    | exact sameAt_val (h2:=_) (show hval _ (shK .i64 .shl 1 ((e:Nat):Int)) = _ from shl_val (by omega)) (sameV_int _)
    | exact sameAt_val (h2:=_) (show hval _ (shK .i64 .shl 1 ((f:Nat):Int)) = _ from shl_val (by omega)) (sameV_int _)
    | exact sameAt_val (h2:=_) (show hval _ (arK .i64 .xor _ _) = _ from rfl) (sameV_int _)
    | exact sameAt_val (h2:=_) (show hval _ (aBin E .neq 4 _ _ (.bool _) (.bool _)) = _ by rw [bool_neq,hd]; rfl) (sameV_bool _)
  | false =>
   rw [hT] at exd
   conv=>whnf
   refine ⟨?_,?_⟩
   rotate_left
   ·conv=>whnf
    refine ⟨_,wid (by omega),?_⟩
    conv=>whnf
    exact Rnd.mk (f + 1,H2) (nx g2 exd) (by show e - (f + 1) < e - f; omega) ⟨rfl,rfl,rfl,rfl,rfl,trivial⟩ (Hp.Le.refl _) rfl
   repeat' (first | exact True.intro | (refine And.intro ?_ ?_ <;> (conv=>whnf)))
   all_goals first
    | exact sameAt_val (h2:=_) rfl (sameV_int _)
    | exact sameAt_val (h2:=_) rfl (sameV_bool _)
    | exact sameAt_val (h2:=_) (congrArg (fun x=>hval _ (aggOf x)) c0) hsg
    | exact sameAt_val (h2:=_) (show hval _ (shK .i64 .shl 1 ((e:Nat):Int)) = _ from shl_val (by omega)) (sameV_int _)
    | exact sameAt_val (h2:=_) (show hval _ (shK .i64 .shl 1 ((f:Nat):Int)) = _ from shl_val (by omega)) (sameV_int _)
    | exact sameAt_val (h2:=_) (show hval _ (arK .i64 .xor _ _) = _ from rfl) (sameV_int _)
    | exact sameAt_val (h2:=_) (show hval _ (aBin E .neq 4 _ _ (.bool _) (.bool _)) = _ by rw [bool_neq,hd]; rfl) (sameV_bool _)
end
end Go.Proofs.Ythgjnkdealdmoaa
namespace Go.Proofs.Ythgjnkdealdmoaa
open Go.Rx Go.RowKit
def exA (P:List (Int×Int)) (t e f:Nat):Bool:=t.testBit e && !t.testBit f && trB P (less t (2 ^ e) ||| 2 ^ f)
def exC (P:List (Int×Int)) (t e f:Nat):Bool:=!t.testBit e && t.testBit f && trB P (less t (2 ^ f) ||| 2 ^ e)
theorem swap_set {t e f:Nat} (he:t.testBit e = true) (hf:t.testBit f = false):t ^^^ 2 ^ e ^^^ 2 ^ f = less t (2 ^ e) ||| 2 ^ f:=by
 apply Nat.eq_of_testBit_eq
 intro i
 rw [Nat.testBit_xor,Nat.testBit_xor,Nat.testBit_or,less_bit,Nat.testBit_two_pow,Nat.testBit_two_pow]
 by_cases h1:e = i
 ·subst h1
  have:f≠e:=fun x=>by subst x; rw [he] at hf; cases hf
  simp [he,this]
 ·by_cases h2:f = i
  ·subst h2; simp [hf,h1]
  ·simp [h1,h2]
theorem ex_eq (P:List (Int×Int)) (t e f:Nat):exB P t e f = (exA P t e f || exC P t e f):=by
 unfold exB exA exC
 cases he:t.testBit e with
 | true =>
  cases hf:t.testBit f with
  | true=>simp
  | false=>rw [swap_set he hf]; simp
 | false =>
  cases hf:t.testBit f with
  | true =>
   rw [show t ^^^ 2 ^ e ^^^ 2 ^ f = t ^^^ 2 ^ f ^^^ 2 ^ e by rw [Nat.xor_assoc,Nat.xor_comm (2 ^ e),← Nat.xor_assoc],swap_set hf he]; simp
  | false=>simp
def actK (P:List (Int×Int)) (t e k:Nat):Bool:=(List.range k).all fun f=>!exB P t e f
theorem actK_succ (P:List (Int×Int)) (t e k:Nat):actK P t e (k + 1) = (actK P t e k && !exA P t e k && !exC P t e k):=by
 have e1:=ex_eq P t e k
 unfold actK
 rw [List.range_succ,List.all_append]
 simp only [List.all_cons,List.all_nil,Bool.and_true]
 rw [e1]
 cases (List.all (List.range k) fun f=>!exB P t e f) <;> cases exA P t e k <;> cases exC P t e k <;> rfl
def inB (P:List (Int×Int)) (t e:Nat):Bool:=actB P t e && t.testBit e
def outB (P:List (Int×Int)) (t e:Nat):Bool:=actB P t e && !t.testBit e
theorem rem_t {t e:Nat} (he:e < 64) (h:t.testBit e = true):((t:Int).fdiv (2 ^ (min (e:Int).toNat 64))).tmod 2 = 1:=by
 rw [shr_nat he,show (2:Int) = ((2:Nat):Int) from rfl,tmod_nat,(bit_mod t e).2 h]; rfl
theorem rem_f {t e:Nat} (he:e < 64) (h:t.testBit e = false):((t:Int).fdiv (2 ^ (min (e:Int).toNat 64))).tmod 2 = 0:=by
 have h1:¬ t >>> e % 2 = 1:=fun x=>by rw [(bit_mod t e).1 x] at h; cases h
 have h2:t >>> e % 2 = 0:=by omega
 rw [shr_nat he,show (2:Int) = ((2:Nat):Int) from rfl,tmod_nat,h2]; rfl
theorem one_ne {x:Int} (h:x = 0):¬ x = 1:=by omega
theorem nought_ne {x:Int} (h:x = 1):¬ x = 0:=by omega
theorem swap_lt {t e f L:Nat} (ht:t < 2 ^ L) (hf:f < L):less t (2 ^ e) ||| 2 ^ f < 2 ^ L:=Nat.or_lt_two_pow (less_lt ht) (Nat.pow_lt_pow_right (by decide) hf)
theorem swap_int {t e f L:Nat} (hL:L≤9) (ht:t < 2 ^ L) (he:e < L) (hf:f < L):arBits .i64 .or (arBits .i64 .andNot (t:Int) ((2 ^ e:Nat):Int)) ((2 ^ f:Nat):Int) = ((less t (2 ^ e) ||| 2 ^ f:Nat):Int):=by
 have h1:=lt512 hL ht
 have h2:=lt512 hL (Nat.pow_lt_pow_right (a:=2) (by decide) he)
 have h3:=lt512 hL (Nat.pow_lt_pow_right (a:=2) (by decide) hf)
 have h4:=lt512 hL (less_lt (b:=2 ^ e) ht)
 rw [bits_andNot (by omega) (by omega),bits_or (by omega) (by omega)]
attribute [local irreducible] E idxN cellAt cellsAt storeAt callable helems hmoved lookIn findKey keyOk hentries Hp.at Hp.set Hp.lay arBits hupdated setAt CallP YieldP BoolOf IsWrap Rnd LoopP AppP CutP Int.tmod Int.tdiv Int.fdiv
section
variable [Unknowns]
attribute [local irreducible] ResP sameAt flat
theorem RActive_spec (n:Nat) (P:List (Int×Int)) (hP:NetOk n P) (hl:P.length≤9) (t:Nat) (ht:t < 2 ^ P.length) (v:Value) (h:Hp) (hv:PairsV h v P) :
  CallP E 49 [int n,v,int t] h (fun r h'=>r = .tuple ⟨[int (cntB (inB P t) P.length:Nat),int (cntB (outB P t) P.length:Nat)]⟩∧Grows h h'):=by
 obtain ⟨av,cap,rfl,hcv⟩:=id hv
 have hs9:=lt512 hl ht
 refine enter49 (by simp) ?_
 conv=>whnf
 refine SeqP.go ?_
 conv=>whnf
 refine SeqP.go ?_
 conv=>whnf
 refine SeqP.cut (α:=Hp) (fun _=>[(8,int (cntB (inB P t) P.length:Nat)),(9,int (cntB (outB P t) P.length:Nat))]) (fun s H=>H = s∧Grows h s) ?_ ?_
 ·conv=>whnf
  refine SeqP.go ?_
  conv=>whnf
  refine loop_inv (α:=Nat×Hp) (fun s=>[(10,int s.1),(8,int (cntB (inB P t) s.1:Nat)),(9,int (cntB (outB P t) s.1:Nat)),(0,int n),(1,.slice av P.length cap),(2,int t)]) (fun s=>s.2) (fun s=>s.1≤P.length∧Grows h s.2) (fun s=>P.length - s.1) (0,h) ⟨Nat.zero_le _,.refl _⟩ ⟨rfl,rfl,rfl,rfl,rfl,rfl,trivial⟩ (Hp.Le.refl _) ?_
  rintro ⟨e,H⟩ φ ⟨he,gk⟩
  dsimp only at he gk ⊢
  conv=>whnf
  refine SeqP.go ?_
  conv=>whnf
  refine SeqP.go ?_
  conv=>whnf
  refine cmpB (fun c1=>?_) (fun c1=>?_)
  rotate_left
  ·conv=>whnf
   have:e = P.length:=by omega
   subst this
   exact ⟨H,⟨rfl,rfl,trivial⟩,⟨rfl,gk⟩,rfl⟩
  have he':e < P.length:=by omega
  have it:=cntB_t (p:=inB P t) (k:=e)
  have if_:=cntB_f (p:=inB P t) (k:=e)
  have ot:=cntB_t (p:=outB P t) (k:=e)
  have of_:=cntB_f (p:=outB P t) (k:=e)
  have il:=cntB_le (inB P t) e
  have ol:=cntB_le (outB P t) e
  have iE:inB P t e = (actK P t e e && t.testBit e):=rfl
  have oE:outB P t e = (actK P t e e && !t.testBit e):=rfl
  generalize cntB (inB P t) e = ci at it if_ il
  generalize cntB (outB P t) e = co at ot of_ ol
  conv=>whnf
  refine SeqP.go ?_
  conv=>whnf
  refine SeqP.go ?_
  conv=>whnf
  refine SeqP.cut (α:=Hp) (fun _=>[(11,.bool (actK P t e e)),(8,int (ci:Nat)),(9,int (co:Nat)),(10,int e),(0,int n),(1,.slice av P.length cap),(2,int t)]) (fun s H=>H = s∧Grows h s) ?_ ?_
  ·conv=>whnf
   refine SeqP.go ?_
   conv=>whnf
   refine loop_inv (α:=Nat×Hp) (fun s=>[(12,int s.1),(11,.bool (actK P t e s.1)),(8,int (ci:Nat)),(9,int (co:Nat)),(10,int e),(0,int n),(1,.slice av P.length cap),(2,int t)]) (fun s=>s.2) (fun s=>s.1≤e∧Grows h s.2) (fun s=>e - s.1) (0,H) ⟨Nat.zero_le _,gk⟩ ⟨rfl,rfl,rfl,rfl,rfl,rfl,rfl,rfl,trivial⟩ (Hp.Le.refl _) ?_
   clear gk
   rintro ⟨f,H⟩ φ ⟨hf,gk⟩
   dsimp only at hf gk ⊢
   conv=>whnf
   refine SeqP.go ?_
   conv=>whnf
   refine SeqP.go ?_
   conv=>whnf
   refine cmpB (fun c2=>?_) (fun c2=>?_)
   rotate_left
   ·conv=>whnf
    have:f = e:=by omega
    subst this
    exact ⟨H,⟨rfl,rfl,rfl,rfl,rfl,rfl,rfl,trivial⟩,⟨rfl,gk⟩,rfl⟩
   have hf':f < e:=by omega
   have hsu:=actK_succ P t e f
   generalize actK P t e f = b at hsu
   conv=>whnf
   refine SeqP.go ?_
   conv=>whnf
   refine SeqP.cut (α:=Hp) (fun _=>[(11,.bool (b && !exA P t e f)),(12,int f),(8,int (ci:Nat)),(9,int (co:Nat)),(10,int e),(0,int n),(1,.slice av P.length cap),(2,int t)]) (fun s H=>H = s∧Grows h s) ?_ ?_
   ·conv=>whnf
    refine SeqP.go ?_
    conv=>whnf
    have hbE:t.testBit e = true∨t.testBit e = false:=by cases t.testBit e <;> simp
    have hbF:t.testBit f = true∨t.testBit f = false:=by cases t.testBit f <;> simp
    rcases hbE with ht2 | hf2 <;> rcases hbF with kt2 | kf2
    ·have hbe:=ht2
     have hbf:=kt2
     refine ⟨by omega,?_⟩
     conv=>whnf
     refine ⟨by omega,?_⟩
     conv=>whnf
     refine cmpT (rem_t (by omega) hbe) ?_
     conv=>whnf
     refine ⟨by omega,?_⟩
     conv=>whnf
     refine ⟨by omega,?_⟩
     conv=>whnf
     refine cmpF (nought_ne (rem_t (by omega) hbf)) ?_
     conv=>whnf
     have ex:exA P t e f = false:=by unfold exA; rw [hbe,hbf]; rfl
     rw [ex]
     exact ⟨H,⟨by rw [show (b && !false) = b by simp]; rfl,rfl,rfl,rfl,rfl,rfl,rfl,rfl,trivial⟩,⟨rfl,gk⟩,rfl⟩
    ·have hbe:=ht2
     have hbf:=kf2
     refine ⟨by omega,?_⟩
     conv=>whnf
     refine ⟨by omega,?_⟩
     conv=>whnf
     refine cmpT (rem_t (by omega) hbe) ?_
     conv=>whnf
     refine ⟨by omega,?_⟩
     conv=>whnf
     refine ⟨by omega,?_⟩
     conv=>whnf
     refine cmpT (rem_f (by omega) hbf) ?_
     conv=>whnf
     refine ⟨by omega,((2 ^ e:Nat):Int),shl_one (by omega),?_⟩
     conv=>whnf
     refine ⟨by omega,((2 ^ f:Nat):Int),shl_one (by omega),?_⟩
     conv=>whnf
     have hcall:=IsTree_spec n P hP hl (less t (2 ^ e) ||| 2 ^ f) (swap_lt ht (by omega)) _ H (hv.ext gk)
     rw [← swap_int hl ht (by omega) (by omega)] at hcall
     refine CallP.mono hcall ?_
     rintro r H2 ⟨rfl,g2⟩
     have ex:exA P t e f = trB P (less t (2 ^ e) ||| 2 ^ f):=by unfold exA; rw [hbe,hbf]; rfl
     rw [ex]
     cases hT:trB P (less t (2 ^ e) ||| 2 ^ f) with
     | true =>
      conv=>whnf
      exact ⟨H2,⟨by rw [show (b && !true) = false by simp]; rfl,rfl,rfl,rfl,rfl,rfl,rfl,rfl,trivial⟩,⟨rfl,gk.trans g2⟩,rfl⟩
     | false =>
      conv=>whnf
      exact ⟨H2,⟨by rw [show (b && !false) = b by simp]; rfl,rfl,rfl,rfl,rfl,rfl,rfl,rfl,trivial⟩,⟨rfl,gk.trans g2⟩,rfl⟩
    ·have hbe:=hf2
     have hbf:=kt2
     refine ⟨by omega,?_⟩
     conv=>whnf
     refine ⟨by omega,?_⟩
     conv=>whnf
     refine cmpF (one_ne (rem_f (by omega) hbe)) ?_
     conv=>whnf
     have ex:exA P t e f = false:=by unfold exA; rw [hbe,hbf]; rfl
     rw [ex]
     exact ⟨H,⟨by rw [show (b && !false) = b by simp]; rfl,rfl,rfl,rfl,rfl,rfl,rfl,rfl,trivial⟩,⟨rfl,gk⟩,rfl⟩
    ·have hbe:=hf2
     have hbf:=kf2
     refine ⟨by omega,?_⟩
     conv=>whnf
     refine ⟨by omega,?_⟩
     conv=>whnf
     refine cmpF (one_ne (rem_f (by omega) hbe)) ?_
     conv=>whnf
     have ex:exA P t e f = false:=by unfold exA; rw [hbe,hbf]; rfl
     rw [ex]
     exact ⟨H,⟨by rw [show (b && !false) = b by simp]; rfl,rfl,rfl,rfl,rfl,rfl,rfl,rfl,trivial⟩,⟨rfl,gk⟩,rfl⟩
   clear gk
   rintro _ φ H ⟨rfl,gk⟩
   generalize (b && !exA P t e f) = b at hsu
   conv=>whnf
   refine SeqP.go ?_
   conv=>whnf
   have hbE:t.testBit e = true∨t.testBit e = false:=by cases t.testBit e <;> simp
   have hbF:t.testBit f = true∨t.testBit f = false:=by cases t.testBit f <;> simp
   rcases hbE with ht2 | hf2 <;> rcases hbF with kt2 | kf2
   ·have hbe:=ht2
    have hbf:=kt2
    refine ⟨by omega,?_⟩
    conv=>whnf
    refine ⟨by omega,?_⟩
    conv=>whnf
    refine cmpF (nought_ne (rem_t (by omega) hbe)) ?_
    conv=>whnf
    have ex:exC P t e f = false:=by unfold exC; rw [hbe,hbf]; rfl
    rw [ex,show (b && !false) = b by simp] at hsu
    conv=>whnf
    refine ⟨_,wid (by omega),?_⟩
    conv=>whnf
    exact Rnd.mk (f + 1,H) ⟨by show f + 1≤e; omega,gk⟩ (by show e - (f + 1) < e - f; omega) ⟨rfl,by rw [hsu]; rfl,rfl,rfl,rfl,rfl,rfl,rfl,trivial⟩ (Hp.Le.refl _) rfl
   ·have hbe:=ht2
    have hbf:=kf2
    refine ⟨by omega,?_⟩
    conv=>whnf
    refine ⟨by omega,?_⟩
    conv=>whnf
    refine cmpF (nought_ne (rem_t (by omega) hbe)) ?_
    conv=>whnf
    have ex:exC P t e f = false:=by unfold exC; rw [hbe,hbf]; rfl
    rw [ex,show (b && !false) = b by simp] at hsu
    conv=>whnf
    refine ⟨_,wid (by omega),?_⟩
    conv=>whnf
    exact Rnd.mk (f + 1,H) ⟨by show f + 1≤e; omega,gk⟩ (by show e - (f + 1) < e - f; omega) ⟨rfl,by rw [hsu]; rfl,rfl,rfl,rfl,rfl,rfl,rfl,trivial⟩ (Hp.Le.refl _) rfl
   ·have hbe:=hf2
    have hbf:=kt2
    refine ⟨by omega,?_⟩
    conv=>whnf
    refine ⟨by omega,?_⟩
    conv=>whnf
    refine cmpT (rem_f (by omega) hbe) ?_
    conv=>whnf
    refine ⟨by omega,?_⟩
    conv=>whnf
    refine ⟨by omega,?_⟩
    conv=>whnf
    refine cmpT (rem_t (by omega) hbf) ?_
    conv=>whnf
    refine ⟨by omega,((2 ^ f:Nat):Int),shl_one (by omega),?_⟩
    conv=>whnf
    refine ⟨by omega,((2 ^ e:Nat):Int),shl_one (by omega),?_⟩
    conv=>whnf
    have hcall:=IsTree_spec n P hP hl (less t (2 ^ f) ||| 2 ^ e) (swap_lt ht (by omega)) _ H (hv.ext gk)
    rw [← swap_int hl ht (by omega) (by omega)] at hcall
    refine CallP.mono hcall ?_
    rintro r H2 ⟨rfl,g2⟩
    have ex:exC P t e f = trB P (less t (2 ^ f) ||| 2 ^ e):=by unfold exC; rw [hbe,hbf]; rfl
    rw [ex] at hsu
    cases hT:trB P (less t (2 ^ f) ||| 2 ^ e) with
    | true =>
     rw [hT,show (b && !true) = false by simp] at hsu
     conv=>whnf
     refine ⟨_,wid (by omega),?_⟩
     conv=>whnf
     exact Rnd.mk (f + 1,H2) ⟨by show f + 1≤e; omega,gk.trans g2⟩ (by show e - (f + 1) < e - f; omega) ⟨rfl,by rw [hsu]; rfl,rfl,rfl,rfl,rfl,rfl,rfl,trivial⟩ (Hp.Le.refl _) rfl
    | false =>
     rw [hT,show (b && !false) = b by simp] at hsu
     conv=>whnf
     refine ⟨_,wid (by omega),?_⟩
     conv=>whnf
     exact Rnd.mk (f + 1,H2) ⟨by show f + 1≤e; omega,gk.trans g2⟩ (by show e - (f + 1) < e - f; omega) ⟨rfl,by rw [hsu]; rfl,rfl,rfl,rfl,rfl,rfl,rfl,trivial⟩ (Hp.Le.refl _) rfl
   ·have hbe:=hf2
    have hbf:=kf2
    refine ⟨by omega,?_⟩
    conv=>whnf
    refine ⟨by omega,?_⟩
    conv=>whnf
    refine cmpT (rem_f (by omega) hbe) ?_
    conv=>whnf
    refine ⟨by omega,?_⟩
    conv=>whnf
    refine ⟨by omega,?_⟩
    conv=>whnf
    refine cmpF (one_ne (rem_f (by omega) hbf)) ?_
    conv=>whnf
    have ex:exC P t e f = false:=by unfold exC; rw [hbe,hbf]; rfl
    rw [ex,show (b && !false) = b by simp] at hsu
    conv=>whnf
    refine ⟨_,wid (by omega),?_⟩
    conv=>whnf
    exact Rnd.mk (f + 1,H) ⟨by show f + 1≤e; omega,gk⟩ (by show e - (f + 1) < e - f; omega) ⟨rfl,by rw [hsu]; rfl,rfl,rfl,rfl,rfl,rfl,rfl,trivial⟩ (Hp.Le.refl _) rfl
  clear gk
  rintro _ φ H ⟨rfl,gk⟩
  conv=>whnf
  generalize actK P t e e = A at iE oE
  have hbE:t.testBit e = true∨t.testBit e = false:=by cases t.testBit e <;> simp
  refine SeqP.cut (α:=Unit) (fun _=>[(11,.bool A),(8,int (cntB (inB P t) (e + 1):Nat)),(9,int (co:Nat)),(10,int e),(0,int n),(1,.slice av P.length cap),(2,int t)]) (fun _ H'=>H' = H) ?_ ?_
  ·conv=>whnf
   refine SeqP.go ?_
   conv=>whnf
   cases A with
   | false =>
    have e1:=if_ (by rw [iE,Bool.false_and])
    conv=>whnf
    exact ⟨(),⟨rfl,by rw [e1]; rfl,rfl,rfl,rfl,rfl,rfl,trivial⟩,rfl,rfl⟩
   | true =>
    conv=>whnf
    refine ⟨by omega,?_⟩
    conv=>whnf
    refine ⟨by omega,?_⟩
    conv=>whnf
    rcases hbE with hb | hb
    ·have e1:=it (by rw [iE,hb]; rfl)
     refine cmpT (rem_t (by omega) hb) ?_
     conv=>whnf
     refine ⟨((ci + 1:Nat):Int),wie (by omega) (by omega),?_⟩
     conv=>whnf
     exact ⟨(),⟨rfl,by rw [e1]; rfl,rfl,rfl,rfl,rfl,rfl,trivial⟩,rfl,rfl⟩
    ·have e1:=if_ (by rw [iE,hb]; rfl)
     refine cmpF (one_ne (rem_f (by omega) hb)) ?_
     conv=>whnf
     exact ⟨(),⟨rfl,by rw [e1]; rfl,rfl,rfl,rfl,rfl,rfl,trivial⟩,rfl,rfl⟩
  rintro _ φ H rfl
  conv=>whnf
  refine SeqP.go ?_
  conv=>whnf
  cases A with
  | false =>
   have e1:=of_ (by rw [oE,Bool.false_and])
   conv=>whnf
   refine ⟨_,wid (by omega),?_⟩
   conv=>whnf
   exact Rnd.mk (e + 1,H) ⟨by show e + 1≤P.length; omega,gk⟩ (by show P.length - (e + 1) < P.length - e; omega) ⟨rfl,rfl,by rw [e1]; rfl,rfl,rfl,rfl,trivial⟩ (Hp.Le.refl _) rfl
  | true =>
   conv=>whnf
   refine ⟨by omega,?_⟩
   conv=>whnf
   refine ⟨by omega,?_⟩
   conv=>whnf
   rcases hbE with hb | hb
   ·have e1:=of_ (by rw [oE,hb]; rfl)
    refine cmpF (nought_ne (rem_t (by omega) hb)) ?_
    conv=>whnf
    refine ⟨_,wid (by omega),?_⟩
    conv=>whnf
    exact Rnd.mk (e + 1,H) ⟨by show e + 1≤P.length; omega,gk⟩ (by show P.length - (e + 1) < P.length - e; omega) ⟨rfl,rfl,by rw [e1]; rfl,rfl,rfl,rfl,trivial⟩ (Hp.Le.refl _) rfl
   ·have e1:=ot (by rw [oE,hb]; rfl)
    refine cmpT (rem_f (by omega) hb) ?_
    conv=>whnf
    refine ⟨((co + 1:Nat):Int),wie (by omega) (by omega),?_⟩
    conv=>whnf
    refine ⟨_,wid (by omega),?_⟩
    conv=>whnf
    exact Rnd.mk (e + 1,H) ⟨by show e + 1≤P.length; omega,gk⟩ (by show P.length - (e + 1) < P.length - e; omega) ⟨rfl,rfl,by rw [e1]; rfl,rfl,rfl,rfl,trivial⟩ (Hp.Le.refl _) rfl
 rintro _ φ H ⟨rfl,gk⟩
 conv=>whnf
 repeat (refine SeqP.go ?_; conv=>whnf)
 exact ⟨rfl,gk⟩
end
end Go.Proofs.Ythgjnkdealdmoaa
namespace Go.Proofs.Ythgjnkdealdmoaa
open Go.Rx Go.RowKit
def joB (P:List (Int×Int)) (k:Nat):Bool:=decide (¬ at0 (rk 6 P (2 ^ P.length - 1) k).1 (edg P k).1 = at0 (rk 6 P (2 ^ P.length - 1) k).1 (edg P k).2)
def joS (P:List (Int×Int)):Nat→Nat
 | 0=>0
 | k + 1=>if joB P k = true then joS P k ||| 2 ^ k else joS P k
theorem joS_lt (P:List (Int×Int)):∀ k,joS P k < 2 ^ k
 | 0=>by show 0 < 2 ^ 0; decide
 | k + 1=>by
  have h:=joS_lt P k
  have e:2 ^ (k + 1) = 2 ^ k + 2 ^ k:=by rw [Nat.pow_succ]; omega
  unfold joS
  split
  ·exact Nat.or_lt_two_pow (by omega) (by rw [e]; have:=Nat.one_le_two_pow (n:=k); omega)
  ·omega
theorem joS_bit (P:List (Int×Int)) (j:Nat):∀ k,(joS P k).testBit j = (decide (j < k) && joB P j)
 | 0=>by show (0:Nat).testBit j = _; simp
 | k + 1=>by
  unfold joS
  split
  ·rename_i h
   rw [Nat.testBit_or,joS_bit P j k,Nat.testBit_two_pow]
   by_cases e:j = k
   ·subst e; rw [h]; simp
   ·have:(k = j)↔False:=⟨fun x=>by omega,False.elim⟩
    simp only [this,decide_false,Bool.or_false]
    by_cases e2:j < k
    ·simp [e2,show j < k + 1 by omega]
    ·simp [e2,show ¬ j < k + 1 by omega]
  ·rename_i h
   rw [joS_bit P j k]
   by_cases e:j = k
   ·subst e; simp at h; simp [h]
   ·by_cases e2:j < k
    ·simp [e2,show j < k + 1 by omega]
    ·simp [e2,show ¬ j < k + 1 by omega]
theorem jo_rk (P:List (Int×Int)):∀ k,k≤P.length→rk 6 P (joS P P.length) k = rk 6 P (2 ^ P.length - 1) k
 | 0,_=>rfl
 | k + 1,hk=>by
  have ih:=jo_rk P k (by omega)
  have b1:(2 ^ P.length - 1).testBit k = true:=by rw [Nat.testBit_two_pow_sub_one,decide_eq_true (by omega)]
  have b2:=joS_bit P k P.length
  rw [decide_eq_true (show k < P.length by omega),Bool.true_and] at b2
  show rkStep _ _ (rk 6 P (joS P P.length) k) = rkStep _ _ (rk 6 P (2 ^ P.length - 1) k)
  rw [ih,b1,b2]
  unfold rkStep
  cases hj:joB P k with
  | true=>rfl
  | false =>
   have:at0 (rk 6 P (2 ^ P.length - 1) k).1 (edg P k).1 = at0 (rk 6 P (2 ^ P.length - 1) k).1 (edg P k).2:=by
    unfold joB at hj
    rw [decide_eq_false_iff_not] at hj
    exact Classical.byContradiction hj
   rw [if_neg (fun x=>by cases x.1),if_neg (fun x=>x.2 this)]
theorem jo_cnt (P:List (Int×Int)):∀ k,k≤P.length→(rk 6 P (2 ^ P.length - 1) k).2 = cntB (joB P) k
 | 0,_=>rfl
 | k + 1,hk=>by
  have ih:=jo_cnt P k (by omega)
  have b1:(2 ^ P.length - 1).testBit k = true:=by rw [Nat.testBit_two_pow_sub_one,decide_eq_true (by omega)]
  show (rkStep _ _ (rk 6 P (2 ^ P.length - 1) k)).2 = _
  rw [b1]
  unfold rkStep
  cases hj:joB P k with
  | true =>
   have hj2:=hj
   unfold joB at hj2
   rw [decide_eq_true_eq] at hj2
   rw [if_pos ⟨rfl,hj2⟩,cntB_t hj,← ih]
  | false =>
   have:at0 (rk 6 P (2 ^ P.length - 1) k).1 (edg P k).1 = at0 (rk 6 P (2 ^ P.length - 1) k).1 (edg P k).2:=by
    unfold joB at hj
    rw [decide_eq_false_iff_not] at hj
    exact Classical.byContradiction hj
   rw [if_neg (fun x=>x.2 this),cntB_f hj,ih]
theorem sz_lt {s L:Nat} (hL:L≤9) (hs:s < 2 ^ L):sz s = cntB s.testBit L:=by
 have hz:s >>> L = 0:=by rw [Nat.shiftRight_eq_div_pow]; exact Nat.div_eq_of_lt hs
 have:=cnt_stop hz (9 - L)
 rw [show L + (9 - L) = 9 by omega] at this
 exact this
theorem tree_is (P:List (Int×Int)) (hl:P.length≤9):∃ s,s < 2 ^ P.length∧trB P s = true:=by
 refine ⟨joS P P.length,joS_lt P _,?_⟩
 have e1:rkN P (joS P P.length) = rkN P (2 ^ P.length - 1):=by unfold rkN; rw [jo_rk P P.length (Nat.le_refl _)]
 have e2:sz (joS P P.length) = rkN P (2 ^ P.length - 1):=by
  rw [sz_lt hl (joS_lt P _)]
  unfold rkN
  rw [jo_cnt P P.length (Nat.le_refl _)]
  refine cntB_congr _ fun d hd=>?_
  rw [joS_bit,decide_eq_true hd,Bool.true_and]
 unfold trB
 rw [e1,e2]
 simp
theorem trL_pos (P:List (Int×Int)) (hl:P.length≤9):0 < (trL P (2 ^ P.length)).length:=by
 obtain ⟨s,h1,h2⟩:=tree_is P hl
 exact List.length_pos_of_mem (trL_has P h2 _ h1)
attribute [local irreducible] E idxN cellAt cellsAt storeAt callable helems hmoved lookIn findKey keyOk hentries Hp.at Hp.set Hp.lay arBits hupdated setAt CallP YieldP BoolOf IsWrap Rnd LoopP AppP CutP Int.tmod Int.tdiv Int.fdiv
section
variable [Unknowns]
attribute [local irreducible] ResP sameAt flat
theorem Active_no (n:Nat) (P:List (Int×Int)) (hP:NetOk n P) (hl:P.length≤9) (t:Nat) (ht:t < 2 ^ P.length) (hT:trB P t = false) (v:Value) (h:Hp) (hv:PairsV h v P) :
  CallP E 47 [int n,v,int t] h (fun r h'=>r = .tuple ⟨[int 0,int 0,int 1]⟩∧Grows h h'):=by
 obtain ⟨av,cap,rfl,hcv⟩:=id hv
 refine enter47 (by simp) ?_
 conv=>whnf
 repeat (refine SeqP.go ?_; conv=>whnf)
 refine CallP.mono (withSet_spec n P hP hl t ht _ h hv) ?_
 rintro r H1 ⟨rfl,g1⟩
 conv=>whnf
 refine ⟨rfl,_,storeAt_full (vs:=[int n,.slice av P.length cap]) (Hp.at_lay_self _ _) rfl rfl rfl,?_⟩
 generalize hH2:(H1.lay (.row 83 true [int 0,.slice none 0 0])).set H1.next (.row 83 true [int n,.slice av P.length cap]) = H2
 have a2:H2.at H1.next = some (.row 83 true [int n,.slice av P.length cap]):=by rw [← hH2]; exact Hp.at_set_self _ (Hp.lt_of_at (Hp.at_lay_self _ _))
 have g2:Grows H1 H2:=by rw [← hH2]; exact (Grows.lay _ _).then_set _ (Nat.le_refl _)
 conv=>whnf
 repeat (refine SeqP.go ?_; conv=>whnf)
 refine cmpF (by omega) ?_
 conv=>whnf
 repeat (refine SeqP.go ?_; conv=>whnf)
 refine ⟨_,cellsAt_row a2 (by simp),?_⟩
 conv=>whnf
 refine CallP.mono (isTree_spec n P hP hl t ht _ H2 (hv.ext (g1.trans g2))) ?_
 rw [hT]
 rintro r H3 ⟨rfl,g3⟩
 conv=>whnf
 repeat (refine SeqP.go ?_; conv=>whnf)
 exact ⟨rfl,(g1.trans g2).trans g3⟩
theorem Active_spec (n:Nat) (P:List (Int×Int)) (hP:NetOk n P) (hl:P.length≤9) (t:Nat) (ht:t < 2 ^ P.length) (hT:trB P t = true) (v:Value) (h:Hp) (hv:PairsV h v P) :
  CallP E 47 [int n,v,int t] h (fun r h'=>r = .tuple ⟨[int (cntB (inB P t) P.length:Nat),int (cntB (outB P t) P.length:Nat),int 0]⟩∧Grows h h'):=by
 obtain ⟨av,cap,rfl,hcv⟩:=id hv
 have hs9:=lt512 hl ht
 refine enter47 (by simp) ?_
 conv=>whnf
 repeat (refine SeqP.go ?_; conv=>whnf)
 refine CallP.mono (withSet_spec n P hP hl t ht _ h hv) ?_
 rintro r H1 ⟨rfl,g1⟩
 conv=>whnf
 refine ⟨rfl,_,storeAt_full (vs:=[int n,.slice av P.length cap]) (Hp.at_lay_self _ _) rfl rfl rfl,?_⟩
 generalize hH2:(H1.lay (.row 83 true [int 0,.slice none 0 0])).set H1.next (.row 83 true [int n,.slice av P.length cap]) = H2
 have a2:H2.at H1.next = some (.row 83 true [int n,.slice av P.length cap]):=by rw [← hH2]; exact Hp.at_set_self _ (Hp.lt_of_at (Hp.at_lay_self _ _))
 have g2:Grows H1 H2:=by rw [← hH2]; exact (Grows.lay _ _).then_set _ (Nat.le_refl _)
 conv=>whnf
 repeat (refine SeqP.go ?_; conv=>whnf)
 refine cmpF (by omega) ?_
 conv=>whnf
 repeat (refine SeqP.go ?_; conv=>whnf)
 refine ⟨_,cellsAt_row a2 (by simp),?_⟩
 conv=>whnf
 refine CallP.mono (isTree_spec n P hP hl t ht _ H2 (hv.ext (g1.trans g2))) ?_
 rw [hT]
 rintro r H3 ⟨rfl,g3⟩
 have g03:=(g1.trans g2).trans g3
 have a3:=g3.at_ _ _ a2
 conv=>whnf
 refine SeqP.cut (α:=Hp) (fun _=>[(6,int (cntB (inB P t) P.length:Nat)),(7,int (cntB (outB P t) P.length:Nat))]) (fun s H=>H = s∧Grows H3 s) ?_ ?_
 ·conv=>whnf
  repeat (refine SeqP.go ?_; conv=>whnf)
  refine loop_inv (α:=Nat×Hp) (fun s=>[(27,int s.1),(6,int (cntB (inB P t) s.1:Nat)),(7,int (cntB (outB P t) s.1:Nat)),(26,int P.length),(9,ptr H1.next 0),(2,int t)]) (fun s=>s.2) (fun s=>s.1≤P.length∧Grows H3 s.2) (fun s=>P.length - s.1) (0,H3) ⟨Nat.zero_le _,.refl _⟩ ⟨rfl,rfl,rfl,rfl,rfl,rfl,trivial⟩ (Hp.Le.refl _) ?_
  rintro ⟨e,H⟩ φ ⟨he,gk⟩
  dsimp only at he gk ⊢
  conv=>whnf
  refine SeqP.go ?_
  conv=>whnf
  refine cmpB (fun c1=>?_) (fun c1=>?_)
  rotate_left
  ·conv=>whnf
   have:e = P.length:=by omega
   subst this
   exact ⟨H,⟨rfl,rfl,trivial⟩,⟨rfl,gk⟩,rfl⟩
  have he':e < P.length:=by omega
  have it:=cntB_t (p:=inB P t) (k:=e)
  have if_:=cntB_f (p:=inB P t) (k:=e)
  have ot:=cntB_t (p:=outB P t) (k:=e)
  have of_:=cntB_f (p:=outB P t) (k:=e)
  have il:=cntB_le (inB P t) e
  have ol:=cntB_le (outB P t) e
  have iE:inB P t e = (actB P t e && t.testBit e):=rfl
  have oE:outB P t e = (actB P t e && !t.testBit e):=rfl
  generalize cntB (inB P t) e = ci at it if_ il
  generalize cntB (outB P t) e = co at ot of_ ol
  conv=>whnf
  repeat (refine SeqP.go ?_; conv=>whnf)
  refine ⟨_,cellsAt_row (gk.at_ _ _ a3) (by simp),?_⟩
  conv=>whnf
  refine CallP.mono (isActive_spec n P hP hl t ht e he' _ H (hv.ext (g03.trans gk))) ?_
  rintro r H5 ⟨rfl,g5⟩
  have k5:=gk.trans g5
  cases hA:actB P t e with
  | false =>
   rw [hA,Bool.false_and] at iE oE
   have e1:=if_ iE
   have e2:=of_ oE
   conv=>whnf
   refine ⟨_,wid (by omega),?_⟩
   conv=>whnf
   exact Rnd.mk (e + 1,H5) ⟨by show e + 1≤P.length; omega,k5⟩ (by show P.length - (e + 1) < P.length - e; omega) ⟨rfl,by rw [e1]; rfl,by rw [e2]; rfl,rfl,rfl,rfl,trivial⟩ (Hp.Le.refl _) rfl
  | true =>
   rw [hA,Bool.true_and] at iE oE
   conv=>whnf
   repeat (refine SeqP.go ?_; conv=>whnf)
   refine CallP.mono (has_spec t e (by omega) (by omega) H5) ?_
   rintro r H5 ⟨rfl,rfl⟩
   cases hb:t.testBit e with
   | true =>
    rw [hb] at iE oE
    have e1:=it iE
    have e2:=of_ oE
    conv=>whnf
    refine ⟨((ci + 1:Nat):Int),wie (by omega) (by omega),?_⟩
    conv=>whnf
    refine ⟨_,wid (by omega),?_⟩
    conv=>whnf
    exact Rnd.mk (e + 1,H5) ⟨by show e + 1≤P.length; omega,k5⟩ (by show P.length - (e + 1) < P.length - e; omega) ⟨rfl,by rw [e1]; rfl,by rw [e2]; rfl,rfl,rfl,rfl,trivial⟩ (Hp.Le.refl _) rfl
   | false =>
    rw [hb] at iE oE
    have e1:=if_ iE
    have e2:=ot oE
    conv=>whnf
    refine ⟨((co + 1:Nat):Int),wie (by omega) (by omega),?_⟩
    conv=>whnf
    refine ⟨_,wid (by omega),?_⟩
    conv=>whnf
    exact Rnd.mk (e + 1,H5) ⟨by show e + 1≤P.length; omega,k5⟩ (by show P.length - (e + 1) < P.length - e; omega) ⟨rfl,by rw [e1]; rfl,by rw [e2]; rfl,rfl,rfl,rfl,trivial⟩ (Hp.Le.refl _) rfl
 rintro _ φ H6 ⟨rfl,g6⟩
 conv=>whnf
 repeat (refine SeqP.go ?_; conv=>whnf)
 exact ⟨rfl,g03.trans g6⟩
end
end Go.Proofs.Ythgjnkdealdmoaa
namespace Go.Proofs.Ythgjnkdealdmoaa
open Go.Rx Go.RowKit
attribute [local irreducible] E idxN cellAt cellsAt storeAt callable helems hmoved lookIn findKey keyOk hentries Hp.at Hp.set Hp.lay arBits hupdated setAt CallP YieldP BoolOf IsWrap Rnd LoopP AppP CutP Int.tmod Int.tdiv Int.fdiv
section
variable [Unknowns]
attribute [local irreducible] ResP sameAt flat
theorem trees_law (n set:Int) (L:List (Int×Int)) (hL:L.length < 9223372036854775808) (v:Value) (h:Hp) (hv:PairsV h v L) :
  CallP E 9 [int n,v,int set] h (fun r _=>r = .bool true):=by
 obtain ⟨av,cap,rfl,-⟩:=id hv
 refine enter9 (by simp) ?_
 conv=>whnf
 repeat (refine SeqP.go ?_; conv=>whnf)
 refine CallP.mono (tame_spec n _ L 9 (by omega) h hv hL) ?_
 rintro r H1 ⟨m,v1,P,rfl,hP,hPl,hb,g1⟩
 have hp:=Nat.pow_le_pow_right (n:=2) (by omega) hPl
 have hp1:=Nat.one_le_two_pow (n:=P.length)
 have hpv:=hb.pairs
 obtain ⟨a1,c1,rfl,-⟩:=id hpv
 have hso:=set_of set P.length hPl
 obtain ⟨u,s,hu,hs,hs2,hs0⟩:=hso
 have htp:=trL_pos P hPl
 have htl:=trL_len P (2 ^ P.length)
 have hmem:=fun x=>trL_mem P (x:=x) (2 ^ P.length)
 have hfor:∀ x ∈ trL P (2 ^ P.length),∃ s:Nat,x = s∧s < 2 ^ P.length∧trB P s = true:=hmem
 have hTe:∃ T,trL P (2 ^ P.length) = T:=⟨_,rfl⟩
 obtain ⟨T,hT⟩:=hTe
 rw [hT] at htp htl hfor
 conv=>whnf
 refine SeqP.cut (α:=Value×Hp) (fun x=>[(8,x.1),(9,int 0),(0,int m),(7,.slice a1 P.length c1),(2,int set)]) (fun x h'=>h' = x.2∧Grows H1 x.2∧Ints x.2 x.1 T∧isUndef x.1 = false) ?_ ?_
 ·conv=>whnf
  refine CallP.mono (Trees_spec m P hP hPl _ H1 hpv) ?_
  rw [hT]
  rintro r H2 ⟨⟨t,rfl,ht,b,hb1,hb2⟩,g2⟩
  have hud:=Built.def_ hb2
  conv=>whnf
  exact ⟨(t,H2),⟨rfl,rfl,rfl,rfl,rfl,trivial⟩,⟨rfl,g2,ht.ints,hud⟩,rfl⟩
 rintro ⟨t,_⟩ φ H2 ⟨rfl,g2,ht,hud⟩
 dsimp only at g2 ht hud ⊢
 obtain ⟨at_,ct,rfl,-⟩:=id ht
 conv=>whnf
 refine SeqP.cut (α:=Value×Hp) (fun x=>[(8,.slice at_ T.length ct),(10,x.1),(9,int 0),(0,int m),(7,.slice a1 P.length c1),(2,int set)]) (fun x h'=>h' = x.2∧Grows H2 x.2∧Ints x.2 x.1 T) ?_ ?_
 ·conv=>whnf
  refine CallP.mono (RTrees_spec m P hP hPl _ H2 (hpv.ext g2)) ?_
  rw [hT]
  rintro r H3 ⟨hb3,g3⟩
  have hi3:=hb3.ints
  obtain ⟨aw,cw,rfl,-⟩:=id hi3
  conv=>whnf
  exact ⟨(_,H3),⟨rfl,rfl,rfl,rfl,rfl,rfl,trivial⟩,⟨rfl,g3,hi3⟩,rfl⟩
 rintro ⟨w,_⟩ φ H3 ⟨rfl,g3,hw⟩
 dsimp only at g3 hw ⊢
 obtain ⟨aw,cw,rfl,hcw⟩:=id hw
 have g13:=g2.trans g3
 conv=>whnf
 repeat (refine SeqP.go ?_; conv=>whnf)
 refine cmpF (by omega) ?_
 conv=>whnf
 refine CallP.mono (intsL_spec _ _ T (by omega) H3 (ht.ext g3) hw) ?_
 rintro r H3 ⟨rfl,rfl⟩
 conv=>whnf
 refine SeqP.cut (α:=Unit) (fun _=>[(11,int s),(10,.slice aw T.length cw),(0,int m),(7,.slice a1 P.length c1)]) (fun _ h'=>h' = H3) ?_ ?_
 ·conv=>whnf
  refine ⟨u,hu,?_⟩
  conv=>whnf
  refine ⟨by omega,((2 ^ P.length:Nat):Int),shl_u64 hPl,?_⟩
  conv=>whnf
  refine ⟨hs0,?_⟩
  conv=>whnf
  refine ⟨(s:Int),hs,?_⟩
  conv=>whnf
  exact ⟨(),⟨rfl,rfl,rfl,rfl,trivial⟩,rfl,rfl⟩
 rintro _ φ H3 rfl
 conv=>whnf
 refine SeqP.go ?_
 conv=>whnf
 refine SeqP.go ?_
 conv=>whnf
 refine loop_inv (α:=Nat×Nat×Hp) (fun x=>[(12,int x.1),(11,int x.2.1),(10,.slice aw T.length cw),(0,int m),(7,.slice a1 P.length c1)]) (fun x=>x.2.2) (fun x=>x.1≤2∧x.2.1 < 2 ^ P.length∧Grows H3 x.2.2) (fun x=>2 - x.1) (0,s,H3) ⟨Nat.zero_le _,hs2,.refl _⟩ ⟨rfl,rfl,rfl,rfl,rfl,trivial⟩ (Hp.Le.refl _) ?_
 clear hs hs2
 rintro ⟨k,s,H⟩ φ ⟨hk,hs2,gk⟩
 dsimp only at hk hs2 gk ⊢
 conv=>whnf
 refine SeqP.go ?_
 conv=>whnf
 refine SeqP.go ?_
 conv=>whnf
 refine cmpB (fun c2=>?_) (fun c2=>?_)
 rotate_left
 ·conv=>whnf
  repeat (refine SeqP.go ?_; conv=>whnf)
  refine memo20 ?_
  conv=>whnf
  repeat (refine SeqP.go ?_; conv=>whnf)
  rfl
 have hj:s % T.length < T.length:=Nat.mod_lt _ htp
 have hx:=hfor _ (List.getElem_mem hj)
 obtain ⟨s',es',hs',hts'⟩:=hx
 obtain ⟨r,o,sp,rfl,hsp,p0⟩:=hcw (s % T.length) hj
 have p1:∀ H',Grows H H'→cellAt H' r (offAt o ((s:Int).tmod T.length).toNat 1) = some (int s'):=by
  intro H' g
  rw [tmod_nat,offAt_eq,show o + ((s % T.length:Nat):Int).toNat * 1 = s % T.length + o by omega]
  have:=(gk.trans g).cell p0
  rw [es'] at this
  exact this
 have pb:0≤(s:Int).tmod T.length∧(s:Int).tmod T.length < T.length:=by rw [tmod_nat]; omega
 have hpvH:=hpv.ext (g13.trans gk)
 conv=>whnf
 refine SeqP.go ?_
 conv=>whnf
 cases hTr:trB P s with
 | false =>
  refine SeqP.cut (α:=Hp) (fun x=>[(13,int 0),(14,int 0),(15,int 1),(12,int k),(11,int s),(10,.slice (some ⟨r,o,sp⟩) T.length cw),(0,int m),(7,.slice a1 P.length c1)]) (fun x h'=>h' = x∧Grows H x) ?_ ?_
  ·conv=>whnf
   refine CallP.mono (Active_no m P hP hPl s hs2 hTr _ H hpvH) ?_
   rintro r H4 ⟨rfl,g4⟩
   conv=>whnf
   exact ⟨H4,⟨rfl,rfl,rfl,rfl,rfl,rfl,rfl,rfl,trivial⟩,⟨rfl,g4⟩,rfl⟩
  rintro _ φ H4 ⟨rfl,g4⟩
  conv=>whnf
  refine SeqP.go ?_
  conv=>whnf
  refine SeqP.go ?_
  conv=>whnf
  refine CallP.mono (IsTree_spec m P hP hPl s hs2 _ H4 (hpvH.ext g4)) ?_
  rw [hTr]
  rintro r H5 ⟨rfl,g5⟩
  conv=>whnf
  repeat (refine SeqP.go ?_; conv=>whnf)
  refine cmpF (by omega) ?_
  conv=>whnf
  refine ⟨0,wie (by omega) (by omega),?_⟩
  conv=>whnf
  refine cmpF (by omega) ?_
  have q1:=p1 H5 (g4.trans g5)
  conv=>whnf
  refine ⟨by omega,?_⟩
  conv=>whnf
  refine ⟨hsp,pb,?_⟩
  conv=>whnf
  refine ⟨_,q1,?_⟩
  conv=>whnf
  refine ⟨_,wid (by omega),?_⟩
  conv=>whnf
  exact Rnd.mk (k + 1,s',H5) ⟨by show k + 1≤2; omega,hs',gk.trans (g4.trans g5)⟩ (by show 2 - (k + 1) < 2 - k; omega) ⟨rfl,rfl,rfl,rfl,rfl,trivial⟩ (Hp.Le.refl _) rfl
 | true =>
  refine SeqP.cut (α:=Hp) (fun x=>[(13,int (cntB (inB P s) P.length:Nat)),(14,int (cntB (outB P s) P.length:Nat)),(15,int 0),(12,int k),(11,int s),(10,.slice (some ⟨r,o,sp⟩) T.length cw),(0,int m),(7,.slice a1 P.length c1)]) (fun x h'=>h' = x∧Grows H x) ?_ ?_
  ·conv=>whnf
   refine CallP.mono (Active_spec m P hP hPl s hs2 hTr _ H hpvH) ?_
   rintro r H4 ⟨rfl,g4⟩
   conv=>whnf
   exact ⟨H4,⟨rfl,rfl,rfl,rfl,rfl,rfl,rfl,rfl,trivial⟩,⟨rfl,g4⟩,rfl⟩
  rintro _ φ H4 ⟨rfl,g4⟩
  conv=>whnf
  refine SeqP.go ?_
  conv=>whnf
  refine SeqP.go ?_
  conv=>whnf
  refine CallP.mono (IsTree_spec m P hP hPl s hs2 _ H4 (hpvH.ext g4)) ?_
  rw [hTr]
  rintro r H5 ⟨rfl,g5⟩
  conv=>whnf
  refine SeqP.go ?_
  conv=>whnf
  refine CallP.mono (RActive_spec m P hP hPl s hs2 _ H5 ((hpvH.ext g4).ext g5)) ?_
  rintro r H6 ⟨rfl,g6⟩
  conv=>whnf
  repeat (refine SeqP.go ?_; conv=>whnf)
  refine cmpF (by omega) ?_
  conv=>whnf
  refine cmpF (by omega) ?_
  conv=>whnf
  refine cmpF (by omega) ?_
  have q1:=p1 H6 ((g4.trans g5).trans g6)
  conv=>whnf
  refine ⟨by omega,?_⟩
  conv=>whnf
  refine ⟨hsp,pb,?_⟩
  conv=>whnf
  refine ⟨_,q1,?_⟩
  conv=>whnf
  refine ⟨_,wid (by omega),?_⟩
  conv=>whnf
  exact Rnd.mk (k + 1,s',H6) ⟨by show k + 1≤2; omega,hs',gk.trans ((g4.trans g5).trans g6)⟩ (by show 2 - (k + 1) < 2 - k; omega) ⟨rfl,rfl,rfl,rfl,rfl,trivial⟩ (Hp.Le.refl _) rfl
theorem trees_spec (n:Int) (hn:-9223372036854775808≤n∧n < 9223372036854775808) (t:Tr) (ht:TyT Try.prog 22 [t]) (s:Int) (hs:-9223372036854775808≤s∧s < 9223372036854775808):∀ h vs,AllT h vs [.num n,t,.num s]→CallP E 9 vs h (fun r _=>r = .bool true):=by
 intro h vs hvs
 obtain ⟨P,rfl,hm,-⟩:=ty_pairs Try.underlying22 Try.underlying79 Try.underlying3 (by kernel_rfl) (by kernel_rfl) ht
 match vs,hvs with
 | [_,v,_],hvs =>
 obtain ⟨h1,h2,h3,-⟩:=hvs
 cases h1
 cases h3
 exact trees_law n s P (by have:maxLen = 4294967296∨True:=.inr trivial; unfold maxLen at hm; omega) v h h2.lentV.pairs
end
end Go.Proofs.Ythgjnkdealdmoaa
