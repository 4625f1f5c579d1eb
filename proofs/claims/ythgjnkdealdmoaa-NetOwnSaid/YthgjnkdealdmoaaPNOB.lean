/- Contracts of the functions that PNOC comes to. -/
import Derived.Test.YthgjnkdealdmoaaPNOA
import Derived.Test.YthgjnkdealdmoaaCodePNOC
import Derived.Test.YthgjnkdealdmoaaWx26
set_option maxRecDepth 100000
set_option maxHeartbeats 2000000
set_option linter.unusedVariables false
set_option linter.unusedSectionVars false
set_option linter.unusedSimpArgs false
namespace Go.Proofs.Ythgjnkdealdmoaa
open Go.Rx Go.RowKit
def bare (n:Nat):Hp:=⟨n,fun _=>none⟩
theorem bare_grows {n:Nat} {h:Hp} (hn:n≤h.next):Grows (bare n) h:=⟨hn,fun r o e=>by
 unfold Hp.at bare at e
 dsimp only at e
 split at e <;> cases e⟩
def trL (P:List (Int×Int)):Nat→List Int
 | 0=>[]
 | k + 1=>if trB P k = true then trL P k ++ [(k:Int)] else trL P k
theorem trL_len (P:List (Int×Int)):∀ k,(trL P k).length≤k
 | 0=>Nat.le_refl _
 | k + 1=>by
  have:=trL_len P k
  unfold trL
  split
  ·rw [List.length_append]; simp; omega
  ·omega
structure RT (h0 H:Hp) (C:Nat) (v:Value) (l:List Int):Prop where
 next:h0.next + 1≤H.next
 at_:∀ r o,r≠C→h0.at r = some o→H.at r = some o
 cell:H.at C = some (.row 49 true [v])
 built:Built (bare (h0.next + 1)) H 3 v l
theorem RT.ext {h0 H H2:Hp} {C:Nat} {v:Value} {l:List Int} (k:RT h0 H C v l) (g:Grows H H2):RT h0 H2 C v l :=
 ⟨Nat.le_trans k.next g.next,fun r o hr e=>g.at_ _ _ (k.at_ r o hr e),g.at_ _ _ k.cell,k.built.ext g⟩
theorem Built.off {b H:Hp} {v:Value} {l:List Int} (k:Built b H 3 v l) {r:Nat} (hr:r < b.next):∀ n c,v≠slc r 0 n c:=by
 intro n c e
 subst e
 have hlt:=Built.ad_lt k r (ad_slc _ _ _ _)
 omega
theorem RT.keep {h0 H H2:Hp} {C:Nat} {v:Value} {l:List Int} (k:RT h0 H C v l) (hC:C < h0.next) (kp:Keeps h0.next H H2):RT h0 H2 C v l:=by
 refine ⟨by rw [kp.next]; exact k.next,fun r o h1 e=>kp.at_ _ _ (by have:=Hp.lt_of_at e; omega) (k.at_ r o h1 e),kp.at_ _ _ (by omega) k.cell,?_⟩
 refine Built.kx (v:=slc h0.next 0 0 0) k.built (Kx.keeps kp) ?_
 intro r e1 e2
 have e1:h0.next = r:=Option.some.inj e1
 have:=(Built.ad_lt k.built r e2).1
 have:h0.next + 1≤r:=this
 omega
theorem RT.app {h0 H H2:Hp} {C:Nat} {v v':Value} {l l':List Int} (k:RT h0 H C v l) (hC:C < h0.next) (hb:Built (bare (h0.next + 1)) H2 3 v' l') (hn:Grows (bare (h0.next + 1)) H2) (keep:∀ r o,H.at r = some o→(∀ n c,v≠slc r 0 n c)→H2.at r = some o) :
  H2.at C = some (.row 49 true [v])∧RT h0 (H2.set C (.row 49 true [v'])) C v' l':=by
 have hc:=keep C _ k.cell (Built.off k.built (by show C < h0.next + 1; omega))
 refine ⟨hc,⟨by rw [Hp.next_set]; exact hn.next,fun r o h1 e=>?_,Hp.at_set_self _ (Hp.lt_of_at hc),?_⟩⟩
 ·rw [Hp.at_set_ne _ h1]
  exact keep r o (k.at_ r o h1 e) (Built.off k.built (by show r < h0.next + 1; have:=Hp.lt_of_at e; omega))
 ·refine Built.kx (v:=slc C 0 0 0) hb (Kx.set H2 C _) ?_
  intro r e1 e2
  have e1:C = r:=Option.some.inj e1
  have:=(Built.ad_lt hb r e2).1
  have:h0.next + 1≤r:=this
  omega
theorem RT.grows {h h0 H:Hp} {C:Nat} {v:Value} {l:List Int} (k:RT h0 H C v l) (g:Grows h h0) (hC:h.next≤C):Grows h H :=
 ⟨by have:=g.next; have:=k.next; omega,fun r o e=>k.at_ r o (by have:=Hp.lt_of_at e; omega) (g.at_ _ _ e)⟩
theorem finP_two {φ:Rx.Frame} {h:Hp} {a b:Nat} {v w:Value} {Q:Value→Hp→Prop} (ha:φ a = v) (hb:φ b = w) (hu:isUndef v = false) (hw:isUndef w = false) (hq:Q (.tuple ⟨[v,w]⟩) h):finP E [.tmp a,.tmp b] ⟨φ,h,[]⟩ Q:=by
 have e:resultsφ E φ h [.tmp a,.tmp b] = some [v,w]:=by
  unfold resultsφ resultφ
  dsimp only
  rw [ha,hu]
  dsimp only
  unfold resultsφ resultφ
  dsimp only
  rw [hb,hw]
  rfl
 show (match resultsφ E φ h [.tmp a,.tmp b] with | some vs=>Q (tupledφ vs) h | none=>False)
 rw [e]
 exact hq
theorem Built.def_ {b H:Hp} {v:Value} {l:List Int} (k:Built b H 3 v l):isUndef v = false:=by
 rcases k with ⟨rfl,_⟩ | ⟨r,rfl,_⟩ <;> rfl
attribute [local irreducible] E idxN cellAt cellsAt storeAt callable helems hmoved lookIn findKey keyOk hentries Hp.at Hp.set Hp.lay arBits hupdated setAt CallP YieldP BoolOf IsWrap Rnd LoopP AppP CutP Int.tmod Int.tdiv Int.fdiv
section
variable [Unknowns]
attribute [local irreducible] ResP sameAt flat finP
theorem Trees_spec (n:Nat) (P:List (Int×Int)) (hP:NetOk n P) (hl:P.length≤9) (v:Value) (h:Hp) (hv:PairsV h v P) :
  CallP E 44 [int n,v] h (fun r h'=>(∃ t,r = .tuple ⟨[t,int 0]⟩∧View h' t (trL P (2 ^ P.length))∧(∃ b:Hp,h.next≤b.next∧Built b h' 3 t (trL P (2 ^ P.length))))∧Grows h h'):=by
 obtain ⟨av,cap,rfl,hcv⟩:=id hv
 have hp:=Nat.pow_le_pow_right (n:=2) (by omega) hl
 refine enter44 (by simp) ?_
 conv=>whnf
 repeat (refine SeqP.go ?_; conv=>whnf)
 refine CallP.mono (Check_spec n P hP hl _ h hv) ?_
 rintro r H1 ⟨rfl,g1⟩
 conv=>whnf
 repeat (refine SeqP.go ?_; conv=>whnf)
 refine cmpF (by omega) ?_
 conv=>whnf
 refine SeqP.cut (α:=Nat×Hp) (fun s=>[(7,ptr s.1 0),(1,.slice av P.length cap)]) (fun s H=>H = s.2∧s.2.at s.1 = some (.row 83 true [int n,.slice av P.length cap])∧Grows h s.2) ?_ ?_
 ·conv=>whnf
  refine ⟨rfl,_,storeAt_full (vs:=[int n,.slice av P.length cap]) (Hp.at_lay_self _ _) rfl rfl rfl,?_⟩
  conv=>whnf
  exact ⟨(H1.next,_),⟨rfl,rfl,trivial⟩,⟨rfl,Hp.at_set_self _ (Hp.lt_of_at (Hp.at_lay_self _ _)),(g1.then_lay _).then_set _ g1.next⟩,rfl⟩
 rintro ⟨D,_⟩ φ H2 ⟨rfl,aD,g2⟩
 dsimp only at aD g2 ⊢
 conv=>whnf
 refine SeqP.cut (α:=Nat×Hp) (fun s=>[(8,ptr s.1 0),(7,ptr D 0),(1,.slice av P.length cap)]) (fun s H=>H = s.2∧s.2.at s.1 = some (.row 49 true [.slice none 0 0])∧H2.next≤s.1∧Grows H2 s.2) ?_ ?_
 ·conv=>whnf
  exact ⟨(H2.next,_),⟨rfl,rfl,rfl,trivial⟩,⟨rfl,Hp.at_lay_self _ _,Nat.le_refl _,Grows.lay _ _⟩,rfl⟩
 rintro ⟨C,_⟩ φ H3 ⟨rfl,aC,nC,g3⟩
 dsimp only at aC nC g3 ⊢
 have hClt:=Hp.lt_of_at aC
 have hDlt:=Hp.lt_of_at aD
 have aD3:=g3.at_ _ _ aD
 have g03:=g2.trans g3
 have n2:=g2.next
 conv=>whnf
 refine SeqP.cutM (α:=Value) (fun _=>[(8,ptr C 0)]) (fun _=>[H3.next + 1]) (fun t H=>RT ((H3.lay (.row 3 true [int (P.length:Int)])).lay .noDefers) H C t (trL P (2 ^ P.length))) ?_ ?_
 ·conv=>whnf
  refine SeqP.go ?_
  conv=>whnf
  refine CallP.mono (sets_spec P.length H3) ?_
  rintro r _ ⟨rfl,rfl⟩
  conv=>whnf
  generalize hH4:H3.lay (.row 3 true [int (P.length:Int)]) = H4
  have aM:H4.at H3.next = some (.row 3 true [int (P.length:Int)]):=by rw [← hH4]; exact Hp.at_lay_self _ _
  have n4:H4.next = H3.next + 1:=by rw [← hH4]; exact Hp.next_lay _ _
  have g4:Grows H3 H4:=by rw [← hH4]; exact Grows.lay _ _
  have hlx:(H4.lay .noDefers).next = H3.next + 2:=by rw [Hp.next_lay,n4]
  refine range_goJ (fun hh=>hh.at H3.next = some (.row 3 true [int (P.length:Int)])) ((List.range (2 ^ P.length)).map gvN) (fun k hh=>∃ t,RT (H4.lay .noDefers) hh C t (trL P k)) (fun _=>False) can115 ?_ rfl (fun I S hJ h0 hit=>sets_iter P.length hl H3.next _ I S _ hJ h0 hit) ?_ ?_ ?_ ?_ ?_
  ·intro k hk
   simp [gvN]
  ·rintro k hh ⟨t,hk⟩
   exact hk.at_ _ _ (by omega) (Hp.at_lay_old _ aM)
  ·exact ⟨.slice none 0 0,Nat.le_of_eq (Hp.next_lay _ _).symm,fun r o _ e=>Hp.at_lay_old _ e,Hp.at_lay_old _ (Hp.at_lay_old _ (g4.at_ _ _ aC)),.inl ⟨rfl,rfl⟩⟩
  ·rintro k xs hget H5 hl5 ⟨t,hk⟩
   have hget2:=List.getElem?_eq_some_iff.1 hget
   obtain ⟨hkl,exs⟩:=hget2
   rw [List.length_map,List.length_range] at hkl
   rw [List.getElem_map,List.getElem_range] at exs
   subst exs
   have htl:=trL_len P k
   have htr:trL P (k + 1) = if trB P k = true then trL P k ++ [(k:Int)] else trL P k:=rfl
   generalize trL P k = tl at hk htl htr
   conv=>whnf
   refine bodyQ_go hl5 ?_
   intro BO hb2 eBO hbl hbk
   have hk2:=hk.keep (by omega) hbk
   clear hget hk
   have gh5:=hk2.grows ((g03.trans g4).then_lay _) (by omega)
   have aD5:=hk2.at_ D _ (by omega) (Hp.at_lay_old _ (g4.at_ _ _ aD3))
   conv=>whnf
   repeat (refine SeqP.go ?_; conv=>whnf)
   refine ⟨_,cellsAt_row aD5 (by simp),?_⟩
   conv=>whnf
   refine CallP.mono (isTree_spec n P hP hl k hkl _ hb2 (hv.ext gh5)) ?_
   rintro b h3 ⟨rfl,g3'⟩
   have k3:=hk2.ext g3'
   have bl3:=g3'.at_ _ _ hbl
   have hlC:C≠(H4.lay .noDefers).next:=by omega
   cases hpk:trB P k with
   | true =>
    rw [hpk,if_pos rfl] at htr
    conv=>whnf
    refine ⟨_,cellAt_row k3.cell rfl,?_⟩
    conv=>whnf
    have k4:=k3.ext (Grows.lay h3 (.row 3 true [int (k:Nat)]))
    refine AppP.ints k4.built (bare_grows k4.next) Elems.lay1 (by simp; omega) ?_
    intro v' h5 hb5 hg5 keep5
    have ka:=RT.app k4 (by omega) hb5 hg5 keep5
    obtain ⟨hc5,k5⟩:=ka
    have bl5:(h5.set C (.row 49 true [v'])).at (H4.lay .noDefers).next = some BO:=by
     rw [Hp.at_set_ne _ (fun x=>hlC x.symm)]
     exact keep5 _ _ (Hp.at_lay_old _ bl3) (Built.off k4.built (Nat.lt_succ_self _))
    have hb6:=hb5
    rcases hb6 with ⟨rfl,e⟩ | ⟨rr,rfl,hrr,xx,hat⟩
    ·simp at e
    conv=>whnf
    refine ⟨rfl,_,storeAt_row hc5 (by simp) rfl,?_⟩
    conv=>whnf
    refine ⟨by rw [← eBO]; exact bl5,?_⟩
    exact .inl ⟨rfl,Hp.at_set_self _ (Hp.lt_of_at bl5),_,by rw [htr]; exact k5.keep (by omega) (Keeps.set _ _ _)⟩
   | false =>
    rw [hpk,if_neg (by simp)] at htr
    conv=>whnf
    refine ⟨by rw [← eBO]; exact bl3,?_⟩
    exact .inl ⟨rfl,Hp.at_set_self _ (Hp.lt_of_at bl3),t,by rw [htr]; exact k3.keep (by omega) (Keeps.set _ _ _)⟩
  ·rintro h2 h3 ⟨t,hk⟩ hkp
   rw [List.length_map,List.length_range] at hk
   have hk3:=hk.keep (by omega) hkp
   exact ⟨t,⟨rfl,trivial⟩,hk3,by rw [n4]; rfl⟩
  ·intro h2 hF
   exact hF.elim
 rintro t φ H hk
 have hms:Marks (H3.next + 1) [H3.next + 1] H:=⟨by simp,fun d hd=>by
  have:d = H3.next + 1:=by simpa using hd
  subst this
  exact ⟨Nat.le_refl _,hk.at_ _ _ (by omega) (at_nx (r:=(H3.lay (.row 3 true [int (P.length:Int)])).next) (by rw [Hp.next_lay]) (Hp.at_lay_self _ _))⟩⟩
 have hud:=Built.def_ hk.built
 conv=>whnf
 repeat (refine SeqP.go ?_; conv=>whnf)
 refine ⟨_,cellAt_row hk.cell rfl,?_⟩
 conv=>whnf
 repeat (refine SeqP.go ?_; conv=>whnf)
 refine finP_marks hms ?_
 intro h3 n3 k3 k3'
 have gh:=hk.grows ((g03.then_lay _).then_lay _) (by omega)
 have hb3:Built (bare (((H3.lay (.row 3 true [int (P.length:Int)])).lay .noDefers).next + 1)) h3 3 t (trL P (2 ^ P.length)):=by
  refine Built.kx (v:=slc (H3.next + 1) 0 0 0) hk.built (fun r o ha e=>k3' r o (by simp; intro x; exact ha (by rw [x]; rfl)) e) ?_
  intro r e1 e2
  have e1:H3.next + 1 = r:=Option.some.inj e1
  have:=(Built.ad_lt hk.built r e2).1
  have:((H3.lay (.row 3 true [int (P.length:Int)])).lay .noDefers).next + 1≤r:=this
  rw [Hp.next_lay,Hp.next_lay] at this
  omega
 refine finP_two rfl rfl hud rfl ⟨⟨t,rfl,hb3.view,_,?_,hb3⟩,⟨by rw [n3]; exact gh.next,fun r o e=>k3 r o (by have:=Hp.lt_of_at e; have:=g03.next; omega) (gh.at_ r o e)⟩⟩
 show h.next≤((H3.lay (.row 3 true [int (P.length:Int)])).lay .noDefers).next + 1
 rw [Hp.next_lay,Hp.next_lay]
 have:=g03.next
 omega
end
end Go.Proofs.Ythgjnkdealdmoaa
namespace Go.Proofs.Ythgjnkdealdmoaa
open Go.Rx Go.RowKit
attribute [local irreducible] E idxN cellAt cellsAt storeAt callable helems hmoved lookIn findKey keyOk hentries Hp.at Hp.set Hp.lay arBits hupdated setAt CallP YieldP BoolOf IsWrap Rnd LoopP AppP CutP Int.tmod Int.tdiv Int.fdiv
section
variable [Unknowns]
attribute [local irreducible] ResP sameAt flat
theorem RTrees_spec (n:Nat) (P:List (Int×Int)) (hP:NetOk n P) (hl:P.length≤9) (v:Value) (h:Hp) (hv:PairsV h v P) :
  CallP E 45 [int n,v] h (fun r h'=>Built h h' 3 r (trL P (2 ^ P.length))∧Grows h h'):=by
 obtain ⟨av,cap,rfl,hcv⟩:=id hv
 have hp:=Nat.pow_le_pow_right (n:=2) (by omega) hl
 have hp1:=Nat.one_le_two_pow (n:=P.length)
 refine enter45 (by simp) ?_
 conv=>whnf
 refine SeqP.go ?_
 conv=>whnf
 refine SeqP.go ?_
 conv=>whnf
 refine SeqP.cut (α:=Value×Hp) (fun s=>[(5,s.1)]) (fun s H=>H = s.2∧Built h s.2 3 s.1 (trL P (2 ^ P.length))∧Grows h s.2) ?_ ?_
 ·conv=>whnf
  refine SeqP.go ?_
  conv=>whnf
  refine loop_inv (α:=Nat×Value×Hp) (fun s=>[(6,int s.1),(5,s.2.1),(0,int n),(1,.slice av P.length cap)]) (fun s=>s.2.2) (fun s=>s.1≤2 ^ P.length∧Built h s.2.2 3 s.2.1 (trL P s.1)∧Grows h s.2.2) (fun s=>2 ^ P.length - s.1) (0,.slice none 0 0,h) ⟨Nat.zero_le _,.inl ⟨rfl,rfl⟩,.refl _⟩ ⟨rfl,rfl,rfl,rfl,trivial⟩ (Hp.Le.refl _) ?_
  rintro ⟨k,t,H⟩ φ ⟨hk,hb,gk⟩
  dsimp only at hk hb gk ⊢
  conv=>whnf
  refine SeqP.go ?_
  conv=>whnf
  refine SeqP.go ?_
  conv=>whnf
  refine CallP.mono (Rall_spec P hl _ H (hv.ext gk)) ?_
  rintro r H ⟨rfl,rfl⟩
  conv=>whnf
  refine cmpB (fun c1=>?_) (fun c1=>?_)
  rotate_left
  ·conv=>whnf
   have:k = 2 ^ P.length:=by omega
   subst this
   exact ⟨(t,H),⟨rfl,trivial⟩,⟨rfl,hb,gk⟩,rfl⟩
  have hkl:k < 2 ^ P.length:=by omega
  have htl:=trL_len P k
  have htr:trL P (k + 1) = if trB P k = true then trL P k ++ [(k:Int)] else trL P k:=rfl
  generalize trL P k = tl at hb htl htr
  conv=>whnf
  refine SeqP.go ?_
  conv=>whnf
  refine SeqP.go ?_
  conv=>whnf
  refine CallP.mono (IsTree_spec n P hP hl k hkl _ H (hv.ext gk)) ?_
  rintro b h3 ⟨rfl,g3⟩
  have b3:=hb.ext g3
  have k3:=gk.trans g3
  cases hpk:trB P k with
  | true =>
   rw [hpk,if_pos rfl] at htr
   conv=>whnf
   refine AppP.ints (b3.ext (Grows.lay _ _)) (k3.then_lay _) Elems.lay1 (by simp; omega) ?_
   intro v' h5 hb5 hg5 keep5
   conv=>whnf
   refine ⟨_,wid (by omega),?_⟩
   conv=>whnf
   exact Rnd.mk (k + 1,v',h5) ⟨by show k + 1≤2 ^ P.length; omega,by rw [htr]; exact hb5,hg5⟩ (by show 2 ^ P.length - (k + 1) < 2 ^ P.length - k; omega) ⟨rfl,rfl,rfl,rfl,trivial⟩ (Hp.Le.refl _) rfl
  | false =>
   rw [hpk,if_neg (by simp)] at htr
   conv=>whnf
   refine ⟨_,wid (by omega),?_⟩
   conv=>whnf
   exact Rnd.mk (k + 1,t,h3) ⟨by show k + 1≤2 ^ P.length; omega,by rw [htr]; exact b3,k3⟩ (by show 2 ^ P.length - (k + 1) < 2 ^ P.length - k; omega) ⟨rfl,rfl,rfl,rfl,trivial⟩ (Hp.Le.refl _) rfl
 rintro ⟨t,_⟩ φ H ⟨rfl,hb,gk⟩
 dsimp only at hb gk ⊢
 rcases id hb with ⟨rfl,e⟩ | ⟨rr,rfl,hrr,xx,hat⟩
 ·conv=>whnf
  repeat (refine SeqP.go ?_; conv=>whnf)
  exact ⟨hb,gk⟩
 ·conv=>whnf
  repeat (refine SeqP.go ?_; conv=>whnf)
  exact ⟨hb,gk⟩
theorem intsL_spec (v w:Value) (l:List Int) (hl:l.length≤1000000) (h:Hp) (hv:Ints h v l) (hw:Ints h w l):CallP E 46 [v,w] h (fun r h'=>r = .bool true∧h' = h):=by
 obtain ⟨av,cv,rfl,hcv⟩:=id hv
 obtain ⟨aw,cw,rfl,hcw⟩:=id hw
 refine enter46 (by simp) ?_
 conv=>whnf
 repeat (refine SeqP.go ?_; conv=>whnf)
 refine cmpF (by omega) ?_
 conv=>whnf
 repeat (refine SeqP.go ?_; conv=>whnf)
 refine loop_inv (α:=Nat) (fun k=>[(5,int k),(0,.slice av l.length cv),(1,.slice aw l.length cw)]) (fun _=>h) (fun k=>k≤l.length) (fun k=>l.length - k) 0 (Nat.zero_le _) ⟨rfl,rfl,rfl,trivial⟩ (Hp.Le.refl _) ?_
 rintro k φ hk
 have hk:k≤l.length:=hk
 conv=>whnf
 repeat (refine SeqP.go ?_; conv=>whnf)
 refine cmpB (fun c1=>?_) (fun c1=>?_)
 rotate_left
 ·conv=>whnf
  repeat (refine SeqP.go ?_; conv=>whnf)
  exact ⟨rfl,rfl⟩
 have hk':k < l.length:=by omega
 obtain ⟨r,o,sp,rfl,hsp,p0⟩:=hcv k hk'
 obtain ⟨r',o',sp',rfl,hsp',q0⟩:=hcw k hk'
 have p1:cellAt h r (offAt o (k:Int).toNat 1) = some (int l[k]):=by rw [offAt_eq,show o + (k:Int).toNat * 1 = k + o by omega]; exact p0
 have q1:cellAt h r' (offAt o' (k:Int).toNat 1) = some (int l[k]):=by rw [offAt_eq,show o' + (k:Int).toNat * 1 = k + o' by omega]; exact q0
 conv=>whnf
 repeat (refine SeqP.go ?_; conv=>whnf)
 refine ⟨hsp,⟨by omega,by omega⟩,?_⟩
 conv=>whnf
 refine ⟨_,p1,?_⟩
 conv=>whnf
 refine ⟨hsp',⟨by omega,by omega⟩,?_⟩
 conv=>whnf
 refine ⟨_,q1,?_⟩
 conv=>whnf
 refine cmpF (by omega) ?_
 conv=>whnf
 refine ⟨_,wid (by omega),?_⟩
 conv=>whnf
 exact Rnd.mk (k + 1) (show k + 1≤l.length by omega) (by show l.length - (k + 1) < l.length - k; omega) ⟨rfl,rfl,rfl,trivial⟩ (Hp.Le.refl _) rfl
end
end Go.Proofs.Ythgjnkdealdmoaa
namespace Go.Proofs.Ythgjnkdealdmoaa
open Go.Rx Go.RowKit
theorem ty79:(tiOf Try.prog 79).isSome = true:=by kernel_rfl
theorem ty3:(tiOf Try.prog 3).isSome = true:=by kernel_rfl
theorem te3:E.ty 3 = some ((tiOf Try.prog 3).get ty3):=ty_get (by kernel_rfl) (Option.some_get ty3).symm
theorem se22:sliceElem E 22 = some (79,(tiOf Try.prog 79).get ty79):=by kernel_rfl
theorem sz79:((tiOf Try.prog 79).get ty79).size = 2:=by kernel_rfl
theorem by79:((tiOf Try.prog 79).get ty79).bytes = 16:=by kernel_rfl
theorem zc79:zeroCells ((tiOf Try.prog 79).get ty79) = some [int 0,int 0]:=by kernel_rfl
theorem int3:isIntDesc ((tiOf Try.prog 3).get ty3).desc = true:=by kernel_rfl
theorem ty22:(tiOf Try.prog 22).isSome = true:=by kernel_rfl
theorem te22:E.ty 22 = some ((tiOf Try.prog 22).get ty22):=ty_get (by kernel_rfl) (Option.some_get ty22).symm
theorem hcap_nil (h:Hp):hcap E h [22] [.slice none 0 0] = some (int 0):=by
 unfold hcap
 dsimp only
 rw [te22]
 dsimp only
 unfold hcapTI
 rw [show ((tiOf Try.prog 22).get ty22).desc = .slice 79 from by kernel_rfl]
 rfl
theorem cut_front {h:Hp} {r s n:Nat} {e:TypeId} {cs:List Value} (hr:h.at r = some (.row e false cs)) (hn:0 < n):hcutS h s (slc r 0 n n) none (some (int ((0:Nat):Int))) none = .val (slc r 0 0 n) h:=by
 have shape:hcutS h s (slc r 0 n n) none (some (int ((0:Nat):Int))) none = hcutObj h s r 0 true (some (0,0,n)) (h.at r):=by
  unfold hcutS
  dsimp only [slc]
  rw [bounds_of (len:=n) (i:=0) (j:=0) ⟨.inl ⟨rfl,rfl⟩,.inr rfl⟩ (Nat.le_refl _) (Nat.zero_le _) (Nat.le_refl _)]
  rfl
 rw [shape,hr]
 unfold hcutObj
 dsimp only
 unfold cutOf cutOpen
 dsimp only
 rw [show Nat.ble (Nat.succ 0) n = true from by rw [Nat.ble_eq]; omega]
 dsimp only
 show HRes.val (slc r (0 + 0 * s) (0 - 0) (n - 0)) h = _
 simp
attribute [local irreducible] E idxN cellAt cellsAt storeAt callable helems hmoved lookIn findKey keyOk hentries Hp.at Hp.set Hp.lay arBits hupdated setAt CallP YieldP BoolOf IsWrap Rnd LoopP AppP CutP Int.tmod Int.tdiv Int.fdiv
section
variable [Unknowns]
attribute [local irreducible] ResP sameAt flat
theorem Grow_spec (n:Nat) (hn:n≤9) (h:Hp):CallP E 130 [.slice none 0 0,int n] h (fun r h'=>(n = 0∧r = .slice none 0 0∧h' = h)∨(n≠0∧r = slc h.next 0 0 n∧h' = h.lay (.row 79 false (times [int 0,int 0] n)))):=by
 refine enter130 (by simp) ?_
 conv=>whnf
 repeat (refine SeqP.go ?_; conv=>whnf)
 refine cmpF (by omega) ?_
 conv=>whnf
 repeat (refine SeqP.go ?_; conv=>whnf)
 refine resP_val (v:=int 0) (h:=h) (by show hval h (hcap E h [22] [.slice none 0 0]) = _; rw [hcap_nil]; rfl) ?_
 conv=>whnf
 refine ⟨0,wie (by omega) (by omega),?_⟩
 conv=>whnf
 refine ⟨(n:Int),wie (by omega) (by omega),?_⟩
 conv=>whnf
 refine SeqP.go ?_
 conv=>whnf
 refine cmpB (fun hb=>?_) (fun hb=>?_)
 rotate_left
 ·have:n = 0:=by omega
  conv=>whnf
  repeat (refine SeqP.go ?_; conv=>whnf)
  exact .inl ⟨this,rfl,rfl⟩
 conv=>whnf
 refine resP_val (v:=int 0) (h:=h) (by show hval h (hcap E h [22] [.slice none 0 0]) = _; rw [hcap_nil]; rfl) ?_
 conv=>whnf
 refine CutP.val (v':=.slice none 0 0) rfl ?_
 conv=>whnf
 refine raw_made (n:=n) se22 te3 int3 rfl rfl (by omega) (by omega) zc79 (by rw [sz79]; rfl) (by rw [sz79]; omega) rfl (by rw [by79]; omega) ?_
 conv=>whnf
 refine CutP.val (v':=slc h.next 0 0 n) ?_ ?_
 ·exact cut_front (Hp.at_lay_self _ _) (by omega)
 conv=>whnf
 repeat (refine SeqP.go ?_; conv=>whnf)
 exact .inr ⟨by omega,rfl,rfl⟩
end
end Go.Proofs.Ythgjnkdealdmoaa
namespace Go.Proofs.Ythgjnkdealdmoaa
open Go.Rx Go.RowKit
theorem over_mid:∀ (vs a cs z:List Value),vs.length = cs.length→over (a ++ cs ++ z) a.length vs = a ++ vs ++ z
 | [],a,cs,z,h=>by
  have:cs = []:=List.eq_nil_of_length_eq_zero h.symm
  subst this
  rfl
 | v :: vs,a,c :: cs,z,h=>by
  show over ((a ++ c :: cs ++ z).set a.length v) (a.length + 1) vs = _
  have e1:(a ++ c :: cs ++ z).set a.length v = (a ++ [v]) ++ cs ++ z:=by
   rw [List.append_assoc,List.set_append_right _ _ (Nat.le_refl _)]
   simp
  rw [e1,show a.length + 1 = (a ++ [v]).length by simp,over_mid vs (a ++ [v]) cs z (by simpa using h)]
  simp
def zer (n:Nat):List Value:=times [int 0,int 0] n
theorem zer_len (n:Nat):(zer n).length = n * 2:=times_len _ _
structure CatAt (h:Hp) (r N k:Nat) (cs:List Value) (H:Hp):Prop where
 eq:H = h.lay (.row 79 false (cs ++ (zer N).drop (k * 2)))
theorem cat_step {h H:Hp} {N k m:Nat} {cs new:List Value} {x:Value} {K:Value→Hp→Prop} (k0:CatAt h h.next N k cs H) (hcs:cs.length = k * 2) (hx:ElemsC H 2 x m new) (hN:k + m≤N)
  (q:∀ H',CatAt h h.next N (k + m) (cs ++ new) H'→K (slc h.next 0 (k + m) N) H'):AppP E H 79 2 16 (slc h.next 0 k N) x K:=by
 obtain ⟨rfl⟩:=k0
 obtain ⟨h1,h2,h3,h4⟩:=id hx
 have hzl:=zer_len N
 refine AppP.fits (Hp.at_lay_self _ _) hx hN (by rw [List.length_append,List.length_drop,hcs,hzl]; omega) (q _ ⟨?_⟩)
 rw [Hp.set_lay_self]
 congr 2
 have e1:(zer N).drop (k * 2) = ((zer N).drop (k * 2)).take new.length ++ (zer N).drop ((k + m) * 2):=by
  have:=List.take_append_drop new.length ((zer N).drop (k * 2))
  rw [List.drop_drop,h3] at this
  rw [h3,show (k + m) * 2 = k * 2 + m * 2 by omega]
  exact this.symm
 rw [e1,← List.append_assoc,← hcs,over_mid _ _ _ _ (by rw [List.length_take,List.length_drop,hzl]; omega)]
theorem catGrows {h H:Hp} {N k:Nat} {cs:List Value} (k0:CatAt h h.next N k cs H):Grows h H:=by rw [k0.eq]; exact Grows.lay _ _
theorem catBuilt {h H:Hp} {N:Nat} {cs:List Value} (k0:CatAt h h.next N N cs H) (hl:cs.length = N * 2):BuiltC h H 79 2 (slc h.next 0 N N) N cs:=by
 refine ⟨hl,.inr ⟨h.next,rfl,Nat.le_refl _,false,?_⟩⟩
 rw [k0.eq,Hp.at_lay_self,List.drop_of_length_le (by rw [zer_len]; exact Nat.le_refl _),List.append_nil]
attribute [local irreducible] E idxN cellAt cellsAt storeAt callable helems hmoved lookIn findKey keyOk hentries Hp.at Hp.set Hp.lay arBits hupdated setAt CallP YieldP BoolOf IsWrap Rnd LoopP AppP CutP Int.tmod Int.tdiv Int.fdiv
section
variable [Unknowns]
attribute [local irreducible] ResP sameAt flat
theorem Concat_spec (R:Nat) (a1 a2:Option Addr) (m1 m2 k1 k2:Nat) (c1 c2:List Value) (hm:m1 + m2≤9) (h:Hp) (hR:h.at R = some (.row 22 true [.slice a1 m1 k1,.slice a2 m2 k2]))
  (h1:∀ h',Grows h h'→ElemsC h' 2 (.slice a1 m1 k1) m1 c1) (h2:∀ h',Grows h h'→ElemsC h' 2 (.slice a2 m2 k2) m2 c2) :
  CallP E 116 [slc R 0 2 2] h (fun r h'=>BuiltC h h' 79 2 r (m1 + m2) (c1 ++ c2)∧Grows h h'):=by
 have hc1:=(h1 h (.refl _)).2.2.1
 have hc2:=(h2 h (.refl _)).2.2.1
 have cR0:cellAt h R (offAt 0 ((0:Nat):Int).toNat 1) = some (.slice a1 m1 k1):=cellAt_row hR rfl
 have cR1:cellAt h R (offAt 0 ((1:Nat):Int).toNat 1) = some (.slice a2 m2 k2):=cellAt_row hR rfl
 refine enter116 (by simp) ?_
 conv=>whnf
 refine SeqP.go ?_
 conv=>whnf
 refine SeqP.go ?_
 conv=>whnf
 refine SeqP.cut (α:=Unit) (fun _=>[(3,int ((m1 + m2:Nat):Int)),(0,slc R 0 2 2)]) (fun _ H=>H = h) ?_ ?_
 ·conv=>whnf
  refine SeqP.go ?_
  conv=>whnf
  refine loop_inv (α:=Nat×Nat) (fun s=>[(11,int s.1),(10,int 2),(9,slc R 0 2 2),(3,int s.2),(0,slc R 0 2 2)]) (fun _=>h) (fun s=>s.1 = 0∧s.2 = 0∨s.1 = 1∧s.2 = m1∨s.1 = 2∧s.2 = m1 + m2) (fun s=>2 - s.1) (0,0) (.inl ⟨rfl,rfl⟩) ⟨rfl,rfl,rfl,rfl,rfl,trivial⟩ (Hp.Le.refl _) ?_
  rintro ⟨k,t⟩ φ hk
  dsimp only at hk ⊢
  rcases hk with ⟨rfl,rfl⟩ | ⟨rfl,rfl⟩ | ⟨rfl,rfl⟩
  ·conv=>whnf
   refine SeqP.go ?_
   conv=>whnf
   refine cmpT (by omega) ?_
   conv=>whnf
   repeat (refine SeqP.go ?_; conv=>whnf)
   refine ⟨rfl,⟨by omega,by omega⟩,?_⟩
   conv=>whnf
   refine ⟨_,cR0,?_⟩
   conv=>whnf
   repeat (refine SeqP.go ?_; conv=>whnf)
   refine ⟨(m1:Int),wie (by omega) (by omega),?_⟩
   conv=>whnf
   repeat (refine SeqP.go ?_; conv=>whnf)
   refine cmpF (by omega) ?_
   conv=>whnf
   refine ⟨_,wid (by omega),?_⟩
   conv=>whnf
   exact Rnd.mk (1,m1) (.inr (.inl ⟨rfl,rfl⟩)) (by show 2 - 1 < 2 - 0; decide) ⟨rfl,rfl,rfl,rfl,rfl,trivial⟩ (Hp.Le.refl _) rfl
  ·conv=>whnf
   refine SeqP.go ?_
   conv=>whnf
   refine cmpT (by omega) ?_
   conv=>whnf
   repeat (refine SeqP.go ?_; conv=>whnf)
   refine ⟨rfl,⟨by omega,by omega⟩,?_⟩
   conv=>whnf
   refine ⟨_,cR1,?_⟩
   conv=>whnf
   repeat (refine SeqP.go ?_; conv=>whnf)
   refine ⟨((t + m2:Nat):Int),wie (by omega) (by omega),?_⟩
   conv=>whnf
   repeat (refine SeqP.go ?_; conv=>whnf)
   refine cmpF (by omega) ?_
   conv=>whnf
   refine ⟨_,wid (by omega),?_⟩
   conv=>whnf
   exact Rnd.mk (2,t + m2) (.inr (.inr ⟨rfl,rfl⟩)) (by show 2 - 2 < 2 - 1; decide) ⟨rfl,rfl,rfl,rfl,rfl,trivial⟩ (Hp.Le.refl _) rfl
  ·conv=>whnf
   refine SeqP.go ?_
   conv=>whnf
   refine cmpF (by omega) ?_
   conv=>whnf
   exact ⟨(),⟨rfl,rfl,trivial⟩,rfl,rfl⟩
 rintro _ φ h rfl
 conv=>whnf
 refine SeqP.cut (α:=Value×Hp) (fun s=>[(6,s.1),(0,slc R 0 2 2)]) (fun s H=>H = s.2∧((m1 + m2 = 0∧s.1 = .slice none 0 0∧s.2 = h)∨(m1 + m2≠0∧s.1 = slc h.next 0 0 (m1 + m2)∧CatAt h h.next (m1 + m2) 0 [] s.2))) ?_ ?_
 ·conv=>whnf
  refine CallP.mono (Grow_spec (m1 + m2) hm h) ?_
  rintro r H (⟨e0,rfl,rfl⟩ | ⟨e0,rfl,rfl⟩)
  ·conv=>whnf
   exact ⟨(_,H),⟨rfl,rfl,trivial⟩,⟨rfl,.inl ⟨e0,rfl,rfl⟩⟩,rfl⟩
  ·conv=>whnf
   exact ⟨(_,_),⟨rfl,rfl,trivial⟩,⟨rfl,.inr ⟨e0,rfl,⟨rfl⟩⟩⟩,rfl⟩
 rintro ⟨v,_⟩ φ H ⟨rfl,hvH⟩
 dsimp only at hvH ⊢
 rcases hvH with ⟨e0,rfl,eH⟩ | ⟨e0,rfl,hcat⟩
 ·have eH:=eH.symm
  subst eH
  have e1:m1 = 0:=by omega
  have e2:m2 = 0:=by omega
  have q1:c1 = []:=List.eq_nil_of_length_eq_zero (by rw [hc1,e1])
  have q2:c2 = []:=List.eq_nil_of_length_eq_zero (by rw [hc2,e2])
  have z1:∀ H v,ElemsC H 2 v m1 c1→ElemsC H 2 v 0 []:=fun H v h=>by rw [e1,q1] at h; exact h
  have z2:∀ H v,ElemsC H 2 v m2 c2→ElemsC H 2 v 0 []:=fun H v h=>by rw [e2,q2] at h; exact h
  conv=>whnf
  refine SeqP.cut (α:=Value×Hp) (fun s=>[(6,s.1)]) (fun s H=>H = s.2∧BuiltC h s.2 79 2 s.1 (m1 + m2) (c1 ++ c2)∧Grows h s.2) ?_ ?_
  ·conv=>whnf
   refine SeqP.go ?_
   conv=>whnf
   refine loop_inv (α:=Nat×Value×Hp) (fun s=>[(27,int s.1),(26,int 2),(25,slc R 0 2 2),(6,s.2.1)]) (fun s=>s.2.2) (fun s=>(s.1 = 0∨s.1 = 1∨s.1 = 2)∧BuiltC h s.2.2 79 2 s.2.1 0 []∧Grows h s.2.2) (fun s=>2 - s.1) (0,.slice none 0 0,h) (⟨.inl rfl,BuiltC.nil,.refl _⟩) ⟨rfl,rfl,rfl,rfl,trivial⟩ (Hp.Le.refl _) ?_
   rintro ⟨k,v,H⟩ φ ⟨hk,hb,hg⟩
   dsimp only at hk hb hg ⊢
   rcases hk with rfl | rfl | rfl
   ·conv=>whnf
    refine SeqP.go ?_
    conv=>whnf
    refine cmpT (by omega) ?_
    conv=>whnf
    repeat (refine SeqP.go ?_; conv=>whnf)
    refine ⟨rfl,⟨by omega,by omega⟩,?_⟩
    conv=>whnf
    refine ⟨_,hg.cell cR0,?_⟩
    conv=>whnf
    repeat (refine SeqP.go ?_; conv=>whnf)
    refine AppP.cells (m:=0) hb hg (z1 H _ (h1 H hg)) (by omega) (by omega) ?_
    intro v' H' hb' hg' _
    conv=>whnf
    refine ⟨_,wid (by omega),?_⟩
    conv=>whnf
    exact Rnd.mk (1,v',H') ⟨.inr (.inl rfl),hb',hg'⟩ (by show 2 - 1 < 2 - 0; decide) ⟨rfl,rfl,rfl,rfl,trivial⟩ (Hp.Le.refl _) rfl
   ·conv=>whnf
    refine SeqP.go ?_
    conv=>whnf
    refine cmpT (by omega) ?_
    conv=>whnf
    repeat (refine SeqP.go ?_; conv=>whnf)
    refine ⟨rfl,⟨by omega,by omega⟩,?_⟩
    conv=>whnf
    refine ⟨_,hg.cell cR1,?_⟩
    conv=>whnf
    repeat (refine SeqP.go ?_; conv=>whnf)
    refine AppP.cells (m:=0) hb hg (z2 H _ (h2 H hg)) (by omega) (by omega) ?_
    intro v' H' hb' hg' _
    conv=>whnf
    refine ⟨_,wid (by omega),?_⟩
    conv=>whnf
    exact Rnd.mk (2,v',H') ⟨.inr (.inr rfl),hb',hg'⟩ (by show 2 - 2 < 2 - 1; decide) ⟨rfl,rfl,rfl,rfl,trivial⟩ (Hp.Le.refl _) rfl
   ·conv=>whnf
    refine SeqP.go ?_
    conv=>whnf
    refine cmpF (by omega) ?_
    conv=>whnf
    exact ⟨(v,H),⟨rfl,trivial⟩,⟨rfl,by rw [e0,q1,q2]; exact hb,hg⟩,rfl⟩
  rintro ⟨v,_⟩ φ H ⟨rfl,hb,hg⟩
  dsimp only at hb hg ⊢
  rcases id hb with ⟨_,⟨rfl,_⟩ | ⟨r,rfl,_⟩⟩
  ·conv=>whnf
   repeat (refine SeqP.go ?_; conv=>whnf)
   exact ⟨hb,hg⟩
  ·conv=>whnf
   repeat (refine SeqP.go ?_; conv=>whnf)
   exact ⟨hb,hg⟩
 ·conv=>whnf
  refine SeqP.cut (α:=Value×Hp) (fun s=>[(6,s.1)]) (fun s H=>H = s.2∧BuiltC h s.2 79 2 s.1 (m1 + m2) (c1 ++ c2)∧Grows h s.2) ?_ ?_
  ·conv=>whnf
   refine SeqP.go ?_
   conv=>whnf
   refine loop_inv (α:=Nat×Value×Hp) (fun s=>[(27,int s.1),(26,int 2),(25,slc R 0 2 2),(6,s.2.1)]) (fun s=>s.2.2) (fun s=>(s.1 = 0∧s.2.1 = slc h.next 0 0 (m1 + m2)∧CatAt h h.next (m1 + m2) 0 [] s.2.2)∨(s.1 = 1∧s.2.1 = slc h.next 0 m1 (m1 + m2)∧CatAt h h.next (m1 + m2) m1 c1 s.2.2)∨(s.1 = 2∧s.2.1 = slc h.next 0 (m1 + m2) (m1 + m2)∧CatAt h h.next (m1 + m2) (m1 + m2) (c1 ++ c2) s.2.2)) (fun s=>2 - s.1) (0,_,H) (.inl ⟨rfl,rfl,hcat⟩) ⟨rfl,rfl,rfl,rfl,trivial⟩ (Hp.Le.refl _) ?_
   rintro ⟨k,v,H⟩ φ hk
   dsimp only at hk ⊢
   rcases hk with ⟨rfl,rfl,hcat⟩ | ⟨rfl,rfl,hcat⟩ | ⟨rfl,rfl,hcat⟩
   ·conv=>whnf
    refine SeqP.go ?_
    conv=>whnf
    refine cmpT (by omega) ?_
    conv=>whnf
    repeat (refine SeqP.go ?_; conv=>whnf)
    refine ⟨rfl,⟨by omega,by omega⟩,?_⟩
    conv=>whnf
    refine ⟨_,(catGrows hcat).cell cR0,?_⟩
    conv=>whnf
    repeat (refine SeqP.go ?_; conv=>whnf)
    refine cat_step hcat rfl (h1 H (catGrows hcat)) (by omega) ?_
    intro H' hcat'
    rw [Nat.zero_add] at hcat' ⊢
    rw [List.nil_append] at hcat'
    conv=>whnf
    refine ⟨_,wid (by omega),?_⟩
    conv=>whnf
    exact Rnd.mk (1,_,H') (.inr (.inl ⟨rfl,rfl,hcat'⟩)) (by show 2 - 1 < 2 - 0; decide) ⟨rfl,rfl,rfl,rfl,trivial⟩ (Hp.Le.refl _) rfl
   ·conv=>whnf
    refine SeqP.go ?_
    conv=>whnf
    refine cmpT (by omega) ?_
    conv=>whnf
    repeat (refine SeqP.go ?_; conv=>whnf)
    refine ⟨rfl,⟨by omega,by omega⟩,?_⟩
    conv=>whnf
    refine ⟨_,(catGrows hcat).cell cR1,?_⟩
    conv=>whnf
    repeat (refine SeqP.go ?_; conv=>whnf)
    refine cat_step hcat hc1 (h2 H (catGrows hcat)) (Nat.le_refl _) ?_
    intro H' hcat'
    conv=>whnf
    refine ⟨_,wid (by omega),?_⟩
    conv=>whnf
    exact Rnd.mk (2,_,H') (.inr (.inr ⟨rfl,rfl,hcat'⟩)) (by show 2 - 2 < 2 - 1; decide) ⟨rfl,rfl,rfl,rfl,trivial⟩ (Hp.Le.refl _) rfl
   ·conv=>whnf
    refine SeqP.go ?_
    conv=>whnf
    refine cmpF (by omega) ?_
    conv=>whnf
    exact ⟨(_,H),⟨rfl,trivial⟩,⟨rfl,catBuilt hcat (by rw [List.length_append]; omega),catGrows hcat⟩,rfl⟩
  rintro ⟨v,_⟩ φ H ⟨rfl,hb,hg⟩
  dsimp only at hb hg ⊢
  rcases id hb with ⟨_,⟨rfl,_⟩ | ⟨r,rfl,_⟩⟩
  ·conv=>whnf
   repeat (refine SeqP.go ?_; conv=>whnf)
   exact ⟨hb,hg⟩
  ·conv=>whnf
   repeat (refine SeqP.go ?_; conv=>whnf)
   exact ⟨hb,hg⟩
end
end Go.Proofs.Ythgjnkdealdmoaa
namespace Go.Proofs.Ythgjnkdealdmoaa
open Go.Rx Go.RowKit
theorem cutK {h0 h:Hp} {e s n:Nat} {v:Value} {cs:List Value} (k:BuiltC h0 h e s v n cs) (hone:cs.all oneCell = true) {lo hi:Option Value} {i j:Nat} (hb:BdOf lo hi n i j) (h1:i≤j) (h2:j≤n) :
  ∃ a c,ElemsC h s (.slice a (j - i) c) (j - i) ((cs.drop (i * s)).take ((j - i) * s))∧hcutS h s v lo hi none = .val (.slice a (j - i) c) h:=by
 obtain ⟨hl,⟨rfl,rfl⟩ | ⟨r,rfl,_,x,hr⟩⟩:=k
 ·have hj:j = 0:=by omega
  have hi:i = 0:=by omega
  subst hj; subst hi
  refine ⟨none,0,⟨rfl,by simp [helems],by simp,by simp⟩,?_⟩
  unfold hcutS
  dsimp only
  rw [bounds_of (len:=0) hb h1 h2 (Nat.le_refl _)]
  rfl
 ·have hjs:j * s≤n * s:=Nat.mul_le_mul_right _ h2
  have hij:i * s≤j * s:=Nat.mul_le_mul_right _ h1
  have hsub:(j - i) * s = j * s - i * s:=Nat.sub_mul _ _ _
  have shape:hcutS h s (slc r 0 n n) lo hi none = hcutObj h s r 0 true (some (i,j,n)) (h.at r):=by
   unfold hcutS
   dsimp only [slc]
   rw [bounds_of hb h1 h2 (Nat.le_refl _)]
   rfl
  have p1:∀ c,ElemsC h s (slc r (i * s) (j - i) c) (j - i) ((cs.drop (i * s)).take ((j - i) * s)):=fun c=>elems_part hr (by omega) hone c
  have p0:∀ o c,j - i = 0→o≤cs.length→ElemsC h s (slc r o (j - i) c) (j - i) ((cs.drop (i * s)).take ((j - i) * s)):=by
   intro o c e ho
   have:=elems_part (s:=s) (m:=j - i) hr (o:=o) (by rw [e]; omega) hone c
   rw [e,Nat.zero_mul] at this ⊢
   simpa using this
  rw [shape,hr]
  unfold hcutObj
  cases x with
  | true =>
   unfold cutExact cutTo
   dsimp only
   cases hbeq:Nat.beq n i with
   | true =>
    have:n = i:=Nat.eq_of_beq_eq_true hbeq
    exact ⟨_,_,p0 0 _ (by omega) (by omega),rfl⟩
   | false =>
    refine ⟨_,_,p1 (n - i),?_⟩
    show HRes.val (slc r (0 + i * s) (j - i) (n - i)) h = _
    rw [Nat.zero_add]
    rfl
  | false =>
   unfold cutOf cutOpen
   dsimp only
   cases hble:Nat.ble (Nat.succ i) n with
   | true =>
    refine ⟨_,_,p1 (n - i),?_⟩
    show HRes.val (slc r (0 + i * s) (j - i) (n - i)) h = _
    rw [Nat.zero_add]
    rfl
   | false =>
    have hn:¬ i + 1≤n:=fun hle=>by rw [Nat.ble_eq_true_of_le hle] at hble; cases hble
    unfold cutAll
    have e1:Nat.sub j i = 0:=by show j - i = 0; omega
    have e2:Nat.sub n i = 0:=by show n - i = 0; omega
    rw [e1,e2]
    have:j - i = 0:=by omega
    rw [this,Nat.zero_mul]
    refine ⟨_,_,?_,rfl⟩
    exact ⟨rfl,by unfold helems; dsimp only; rw [Nat.zero_mul]; rfl,by simp,by simp⟩
theorem elemsExt {h h':Hp} {s m:Nat} {a:Option Addr} {n c:Nat} {new:List Value} (g:Grows h h') (k:ElemsC h s (.slice a n c) m new):ElemsC h' s (.slice a n c) m new:=by
 obtain ⟨h1,h2,h3,h4⟩:=k
 refine ⟨h1,?_,h3,h4⟩
 unfold helems at h2 ⊢
 cases a with
 | none=>exact h2
 | some a =>
  obtain ⟨r,o,sp⟩:=a
  dsimp only at h2 ⊢
  split at h2
  ·exact h2
  ·exact g.cells h2
theorem oneGB {h0 h:Hp} {v:Value} {P:List (Int×Int)} (k:GB h0 h v P):∃ a c,v = .slice a P.length c:=by
 have:=k.pairs
 obtain ⟨a,c,e,-⟩:=this
 exact ⟨a,c,e⟩
attribute [local irreducible] E idxN cellAt cellsAt storeAt callable helems hmoved lookIn findKey keyOk hentries Hp.at Hp.set Hp.lay arBits hupdated setAt CallP YieldP BoolOf IsWrap Rnd LoopP AppP CutP Int.tmod Int.tdiv Int.fdiv
section
variable [Unknowns]
attribute [local irreducible] ResP sameAt flat finP
theorem without_spec (n:Nat) (P:List (Int×Int)) (hl:P.length≤9) (k:Nat) (hk:k < P.length) (v:Value) (h0 h:Hp) (hv:GB h0 h v P) :
  CallP E 92 [gval n v,int k] h (fun r h'=>(∃ a c,r = gval n (.slice a (P.length - 1) c)∧GB h h' (.slice a (P.length - 1) c) (lessP P k))∧Grows h h'):=by
 have hbC:BuiltC h0 h 79 2 v P.length ((flat P).map int):=by unfold GB at hv; exact hv
 obtain ⟨av,cap,rfl⟩:=oneGB hv
 have hll:=lessP_len hk
 have hex1:∃ H1,h.lay (.row 83 true [int n,.slice av P.length cap]) = H1:=⟨_,rfl⟩
 obtain ⟨H0,hH0⟩:=hex1
 have a83:H0.at h.next = some (.row 83 true [int n,.slice av P.length cap]):=by rw [← hH0]; exact Hp.at_lay_self _ _
 have g0:Grows h H0:=by rw [← hH0]; exact Grows.lay _ _
 have hex2:∃ H2,H0.lay (.row 83 true [int 0,.slice none 0 0]) = H2:=⟨_,rfl⟩
 obtain ⟨H2,hH2⟩:=hex2
 have aR:H2.at H0.next = some (.row 83 true [int 0,.slice none 0 0]):=by rw [← hH2]; exact Hp.at_lay_self _ _
 have g2:Grows H0 H2:=by rw [← hH2]; exact Grows.lay _ _
 have nn:=g0.next
 refine enter92 (by simp) ?_
 conv=>whnf
 refine SeqP.cut (α:=Unit) (fun _=>[(2,ptr h.next 0),(4,ptr H0.next 0),(1,int k)]) (fun _ H=>H = H2) ?_ ?_
 ·conv=>whnf
  exact ⟨(),⟨rfl,by rw [← hH0]; rfl,rfl,trivial⟩,by rw [← hH2,← hH0],rfl⟩
 rintro _ φ H2 rfl
 have hb2:=hbC.ext (g0.trans g2)
 have a83':=g2.at_ _ _ a83
 have c0:cellAt H2 h.next 0 = some (int n):=cellAt_row a83' rfl
 have c1:cellAt H2 h.next 1 = some (.slice av P.length cap):=cellAt_row a83' rfl
 have hcA:=cutK (i:=0) (j:=k) (lo:=none) (hi:=some (int k)) hb2 (flat_one _) ⟨.inl ⟨rfl,rfl⟩,.inr rfl⟩ (Nat.zero_le _) (by omega)
 have hcB:=cutK (i:=k + 1) (j:=P.length) (lo:=some (int ((k + 1:Nat):Int))) (hi:=none) hb2 (flat_one _) ⟨.inr rfl,.inl ⟨rfl,rfl⟩⟩ (by omega) (Nat.le_refl _)
 obtain ⟨aA,cA,eA,kA⟩:=hcA
 obtain ⟨aB,cB,eB,kB⟩:=hcB
 have eT:((flat P).map int |>.drop (0 * 2)).take ((k - 0) * 2) ++ (((flat P).map int).drop ((k + 1) * 2)).take ((P.length - (k + 1)) * 2) = (flat (lessP P k)).map int:=by
  have hz:(P.drop (k + 1)).take (P.length - (k + 1)) = P.drop (k + 1):=List.take_of_length_le (by rw [List.length_drop]; omega)
  rw [flat_part,flat_part,List.drop_zero,Nat.sub_zero,hz,← List.map_append,← flat_app]
  rfl
 conv=>whnf
 refine SeqP.go ?_
 conv=>whnf
 refine ⟨_,c0,?_⟩
 conv=>whnf
 refine ⟨_,c1,?_⟩
 conv=>whnf
 refine CutP.val kA ?_
 conv=>whnf
 refine ⟨_,c1,?_⟩
 conv=>whnf
 refine ⟨((k + 1:Nat):Int),wie (by omega) (by omega),?_⟩
 conv=>whnf
 refine CutP.val kB ?_
 conv=>whnf
 have gS:Grows H2 (H2.lay (.row 22 true [.slice aA (k - 0) cA,.slice aB (P.length - (k + 1)) cB])):=Grows.lay _ _
 refine CallP.mono (Concat_spec H2.next aA aB (k - 0) (P.length - (k + 1)) cA cB _ _ (by omega) _ (Hp.at_lay_self _ _) (fun h' g=>elemsExt (gS.trans g) eA) (fun h' g=>elemsExt (gS.trans g) eB)) ?_
 rw [eT,show k - 0 + (P.length - (k + 1)) = P.length - 1 by omega]
 rintro r H3 ⟨hb3,g3⟩
 have g23:=gS.trans g3
 have hbs:=BuiltC.slice hb3
 obtain ⟨a3,rfl,-⟩:=hbs
 conv=>whnf
 have aR3:=g23.at_ _ _ aR
 refine ⟨rfl,_,storeAt_full (vs:=[int n,.slice a3 (P.length - 1) (P.length - 1)]) aR3 rfl rfl rfl,?_⟩
 conv=>whnf
 refine ⟨?_,?_⟩
 rotate_left
 ·conv=>whnf
  repeat (refine SeqP.go ?_; conv=>whnf)
  refine leave_cell (i:=(tiOf Try.prog 83).get ty83) (r:=H0.next) (o:=0) (cs:=[int n,.slice a3 (P.length - 1) (P.length - 1)]) rfl te83 ag83 ?_ ?_
  ·rw [sz83,cellsAt_row (Hp.at_set_self _ (Hp.lt_of_at aR3)) (Nat.le_refl _)]
   rfl
  ·have hlt:=Hp.lt_of_at aR
   have gfin:Grows h (H3.set H0.next (.row 83 true [int n,.slice a3 (P.length - 1) (P.length - 1)])):=((g0.trans g2).trans g23).then_set _ nn
   refine ⟨⟨_,_,rfl,?_⟩,gfin⟩
   unfold GB
   rw [hll]
   refine BuiltC.kx (v:=slc H0.next 0 0 0) (hb3.back (Nat.le_trans (g0.trans g2).next gS.next)) (Kx.set H3 H0.next _) ?_
   intro r e1 e2
   have e1:H0.next = r:=Option.some.inj e1
   have:=(BuiltC.ad_lt hb3 r e2).1
   rw [Hp.next_lay] at this
   omega
 repeat' (first | exact True.intro | (refine And.intro ?_ ?_ <;> (conv=>whnf)))
 all_goals first
  | exact sameAt_val (h2:=_) rfl (sameV_ptr _ _)
  | exact sameAt_val (h2:=_) (congrArg (hval _) c0) (sameV_int _)
  | exact sameAt_val (h2:=_) (congrArg (hval _) (gS.cell c0)) (sameV_int _)
  | exact sameAt_val (h2:=_) (congrArg (hval _) (g23.cell c0)) (sameV_int _)
  | exact sameAt_val (h2:=_) (congrArg (hval _) (cellAt_row (show (H3.set H0.next _).at h.next = _ by rw [Hp.at_set_ne _ (by have:=Hp.lt_of_at a83; have:=Hp.lt_of_at aR; intro x; rw [x] at a83; exact absurd (Hp.lt_of_at a83) (Nat.lt_irrefl _))]; exact g23.at_ _ _ a83') rfl)) (sameV_int _)
end
end Go.Proofs.Ythgjnkdealdmoaa
namespace Go.Proofs.Ythgjnkdealdmoaa
open Go.Rx Go.RowKit
theorem flat_set:∀ (L:List (Int×Int)) (i:Nat) (x:Int×Int),i < L.length→((flat L).set (i * 2) x.1).set (i * 2 + 1) x.2 = flat (L.set i x)
 | [],i,x,h=>by simp at h
 | y :: L,0,x,_=>rfl
 | y :: L,i + 1,x,h=>by
  have ih:=flat_set L i x (by simpa using h)
  show (((y.1 :: y.2 :: flat L).set ((i + 1) * 2) x.1).set ((i + 1) * 2 + 1) x.2) = y.1 :: y.2 :: flat (L.set i x)
  rw [← ih,show (i + 1) * 2 = i * 2 + 1 + 1 by omega]
  rfl
theorem storeAt_two {h:Hp} {r o:Nat} {e:TypeId} {x:Bool} {cs:List Value} {v w:Value} (hr:h.at r = some (.row e x cs)) (ho:o + 2≤cs.length) (h1:oneCell v = true) (h2:oneCell w = true):storeAt h r o [v,w] = some (h.set r (.row e x ((cs.set o v).set (o + 1) w))):=by
 unfold storeAt
 rw [hr]
 dsimp only
 rw [if_pos ⟨by simpa using ho,by simp [h1,h2]⟩]
 rfl
structure EV (h0 H:Hp) (a:Option Addr) (r:Nat) (L:List (Int×Int)):Prop where
 next:h0.next≤H.next
 at_:∀ k x,k≠r→h0.at k = some x→H.at k = some x
 obj:(a = none∧L = [])∨(a = some ⟨r,0,none⟩∧∃ x,H.at r = some (.row 79 x ((flat L).map int)))
theorem EV.obj' {h0 H:Hp} {a:Option Addr} {r:Nat} {L:List (Int×Int)} (k:EV h0 H a r L) (hl:0 < L.length):a = some ⟨r,0,none⟩∧∃ x,H.at r = some (.row 79 x ((flat L).map int)):=by
 rcases k.obj with ⟨_,e⟩ | h
 ·rw [e] at hl; exact absurd hl (by decide)
 ·exact h
theorem EV.ext {h0 H H2:Hp} {a:Option Addr} {r:Nat} {L:List (Int×Int)} (k:EV h0 H a r L) (g:Grows H H2):EV h0 H2 a r L :=
 ⟨Nat.le_trans k.next g.next,fun i x hr e=>g.at_ _ _ (k.at_ i x hr e),k.obj.imp id fun ⟨e,x,hx⟩=>⟨e,x,g.at_ _ _ hx⟩⟩
theorem EV.get {h0 H:Hp} {a:Option Addr} {r:Nat} {L:List (Int×Int)} (k:EV h0 H a r L) {i:Nat} (hi:i < L.length):a = some ⟨r,0,none⟩∧cellsAt H r (offAt 0 i 2) 2 = some [int (L[i]).1,int (L[i]).2]:=by
 obtain ⟨e,x,hx⟩:=k.obj' (by omega)
 have hg:=flat_get L i hi
 refine ⟨e,?_⟩
 rw [offAt_eq,Nat.zero_add]
 exact cellsAt_two (cellAt_row hx (by rw [List.getElem?_map,hg.1]; rfl)) (cellAt_row hx (by rw [List.getElem?_map,hg.2]; rfl))
theorem EV.set {h0 H:Hp} {a:Option Addr} {r:Nat} {L:List (Int×Int)} (k:EV h0 H a r L) {i:Nat} (hi:i < L.length) (x:Int×Int):∃ H',storeAt H r (offAt 0 i 2) [int x.1,int x.2] = some H'∧EV h0 H' a r (L.set i x):=by
 obtain ⟨e,b,hb⟩:=k.obj' (by omega)
 have hlen:((flat L).map int).length = L.length * 2:=by rw [List.length_map,flat_length]
 rw [offAt_eq,Nat.zero_add,storeAt_two hb (by rw [hlen]; omega) rfl rfl]
 refine ⟨_,rfl,⟨by rw [Hp.next_set]; exact k.next,fun j o hr e=>by rw [Hp.at_set_ne _ hr]; exact k.at_ j o hr e,.inr ⟨e,b,?_⟩⟩⟩
 rw [Hp.at_set_self _ (Hp.lt_of_at hb),← flat_set L i x hi,List.map_set,List.map_set]
theorem EV.grows {h h0 H:Hp} {a:Option Addr} {r:Nat} {L:List (Int×Int)} (k:EV h0 H a r L) (g:Grows h h0) (hr:h.next≤r):Grows h H :=
 ⟨Nat.le_trans g.next k.next,fun i x e=>k.at_ i x (by have:=Hp.lt_of_at e; omega) (g.at_ _ _ e)⟩
theorem EV.of {h0 h:Hp} {a:Option Addr} {n c:Nat} {L:List (Int×Int)} (k:GB h0 h (.slice a n c) L):n = L.length∧c = n∧∃ r,h0.next≤r∧r≠h.next∧EV h h a r L:=by
 unfold GB at k
 obtain ⟨hl,⟨e,hn⟩ | ⟨r,e,hr,x,hx⟩⟩:=k
 ·injection e with e1 e2 e3
  exact ⟨by omega,by omega,h0.next + h.next + 7,by omega,by omega,Nat.le_refl _,fun _ _ _ e=>e,.inl ⟨e1,List.eq_nil_of_length_eq_zero hn⟩⟩
 ·unfold slc at e
  injection e with e1 e2 e3
  exact ⟨e2,by omega,r,hr,by have:=Hp.lt_of_at hx; omega,Nat.le_refl _,fun _ _ _ e=>e,.inr ⟨e1,x,hx⟩⟩
theorem EV.gb {h0 h H:Hp} {a:Option Addr} {r:Nat} {L:List (Int×Int)} (k:EV h0 H a r L) (hr:h.next≤r):GB h H (.slice a L.length L.length) L:=by
 unfold GB
 refine ⟨by rw [List.length_map,flat_length],?_⟩
 rcases k.obj with ⟨rfl,rfl⟩ | ⟨rfl,x,hx⟩
 ·exact .inl ⟨rfl,rfl⟩
 ·exact .inr ⟨r,rfl,hr,x,hx⟩
theorem EV.pairs {h0 H:Hp} {a:Option Addr} {r c:Nat} {L:List (Int×Int)} (k:EV h0 H a r L):PairsV H (.slice a L.length c) L:=by
 refine ⟨a,c,rfl,fun i hi=>?_⟩
 obtain ⟨e,x,hx⟩:=k.obj' (by omega)
 have hg:=flat_get L i hi
 exact ⟨r,0,e,cellAt_row hx (by rw [List.getElem?_map]; show Option.map int (flat L)[i * 2 + 0]? = _; rw [Nat.add_zero,hg.1]; rfl),cellAt_row hx (by rw [List.getElem?_map]; show Option.map int (flat L)[i * 2 + 0 + 1]? = _; rw [Nat.add_zero,hg.2]; rfl)⟩
def ins (x:Int×Int):List (Int×Int)→List (Int×Int)
 | []=>[x]
 | y :: l=>if x.1 < y.1∨x.1 = y.1∧x.2 < y.2 then x :: y :: l else y :: ins x l
def srt (M:List (Int×Int)):Nat→List (Int×Int)
 | 0=>[]
 | k + 1=>ins (edg M k) (srt M k)
theorem ins_len (x:Int×Int):∀ l,(ins x l).length = l.length + 1
 | []=>rfl
 | y :: l=>by
  unfold ins
  split
  ·rfl
  ·rw [List.length_cons,ins_len x l]; rfl
theorem srt_len (M:List (Int×Int)):∀ k,(srt M k).length = k
 | 0=>rfl
 | k + 1=>by unfold srt; rw [ins_len,srt_len M k]
theorem ins_cut (x:Int×Int):∀ (l:List (Int×Int)) (j:Nat),j≤l.length→(∀ i,(hi:i < l.length)→i < j→¬ PLess x l[i])→(∀ h:j < l.length,PLess x l[j])→l.take j ++ x :: l.drop j = ins x l
 | [],j,hj,_,_=>by
  have:j = 0:=by simpa using hj
  subst this
  rfl
 | y :: l,0,_,_,h=>by
  have:=h (by simp)
  have this:x.1 < y.1∨x.1 = y.1∧x.2 < y.2:=this
  unfold ins
  rw [if_pos this]
  rfl
 | y :: l,j + 1,hj,h1,h2=>by
  have h0:=h1 0 (by simp) (by omega)
  have h0:¬ (x.1 < y.1∨x.1 = y.1∧x.2 < y.2):=h0
  unfold ins
  rw [if_neg h0]
  show y :: (l.take j ++ x :: l.drop j) = _
  rw [ins_cut x l j (by simpa using hj) (fun i hi hij=>h1 (i + 1) (by simpa using hi) (by omega)) (fun h=>h2 (by simpa using h))]
theorem ins_mem {x y:Int×Int}:∀ {l:List (Int×Int)},y ∈ ins x l→y = x∨y ∈ l
 | [],h=>by simp [ins] at h; exact .inl h
 | z :: l,h=>by
  unfold ins at h
  split at h
  ·rcases List.mem_cons.1 h with h | h
   ·exact .inl h
   ·exact .inr h
  ·rcases List.mem_cons.1 h with h | h
   ·exact .inr (by simp [h])
   ·rcases ins_mem h with h | h
    ·exact .inl h
    ·exact .inr (by simp [h])
theorem le_of_not {x y:Int×Int} (h:¬ PLess x y):leP y x:=by unfold PLess at h; unfold leP; omega
theorem le_of_less {x y:Int×Int} (h:PLess x y):leP x y:=by unfold PLess at h; unfold leP; omega
theorem less_le {x y z:Int×Int} (h:PLess x y) (k:leP y z):PLess x z:=by unfold PLess at *; unfold leP at k; omega
theorem ins_sorted (x:Int×Int):∀ {l:List (Int×Int)},l.Pairwise leP→(ins x l).Pairwise leP
 | [],_=>by unfold ins; exact List.pairwise_cons.2 ⟨(fun y hy=>by cases hy),List.Pairwise.nil⟩
 | y :: l,h=>by
  obtain ⟨h1,h2⟩:=List.pairwise_cons.1 h
  unfold ins
  split
  ·rename_i hx
   refine List.pairwise_cons.2 ⟨fun z hz=>?_,h⟩
   rcases List.mem_cons.1 hz with rfl | hz
   ·exact le_of_less hx
   ·exact (le_of_less hx).trans (h1 z hz)
  ·rename_i hx
   refine List.pairwise_cons.2 ⟨fun z hz=>?_,ins_sorted x h2⟩
   rcases ins_mem hz with rfl | hz
   ·exact le_of_not hx
   ·exact h1 z hz
theorem srt_sorted (M:List (Int×Int)):∀ k,(srt M k).Pairwise leP
 | 0=>List.Pairwise.nil
 | k + 1=>ins_sorted _ (srt_sorted M k)
def midL (S:List (Int×Int)) (x:Int×Int) (j:Nat) (R:List (Int×Int)):List (Int×Int):=S.take j ++ x :: (S.drop j ++ R)
theorem midL_len {S:List (Int×Int)} {x:Int×Int} {j:Nat} {R:List (Int×Int)} (hj:j≤S.length):(midL S x j R).length = S.length + 1 + R.length:=by unfold midL; simp; omega
theorem midL_at {S:List (Int×Int)} {x:Int×Int} {j:Nat} {R:List (Int×Int)} (hj:j≤S.length):(midL S x j R)[j]? = some x:=by
 unfold midL
 rw [List.getElem?_append_right (by rw [List.length_take]; omega),List.length_take,show j - min j S.length = 0 by omega]
 rfl
theorem midL_pre {S:List (Int×Int)} {x:Int×Int} {j i:Nat} {R:List (Int×Int)} (hj:j≤S.length) (hi:i < j):(midL S x j R)[i]? = S[i]?:=by
 unfold midL
 rw [List.getElem?_append_left (by rw [List.length_take]; omega),List.getElem?_take,if_pos hi]
theorem midL_swap {S:List (Int×Int)} {x:Int×Int} {j:Nat} {R:List (Int×Int)} (hj:j < S.length):((midL S x (j + 1) R).set (j + 1) S[j]).set j x = midL S x j R:=by
 apply List.ext_getElem?
 intro i
 have hl1:=midL_len (S:=S) (x:=x) (R:=R) (j:=j + 1) (by omega)
 rw [List.getElem?_set,List.getElem?_set]
 by_cases h1:j = i
 ·subst h1
  rw [if_pos rfl,List.length_set,if_pos (by omega),midL_at (by omega)]
 ·rw [if_neg h1]
  unfold midL
  by_cases h2:j + 1 = i
  ·subst h2
   rw [if_pos rfl,if_pos (by simp; omega)]
   rw [List.getElem?_append_right (by rw [List.length_take]; omega),List.length_take,show j + 1 - min j S.length = 1 by omega,List.getElem?_cons_succ,List.getElem?_append_left (by rw [List.length_drop]; omega),List.getElem?_drop]
   rw [Nat.add_zero,List.getElem?_eq_getElem hj]
  ·rw [if_neg h2]
   by_cases h3:i < j
   ·rw [List.getElem?_append_left (by rw [List.length_take]; omega),List.getElem?_append_left (by rw [List.length_take]; omega),List.getElem?_take,List.getElem?_take,if_pos (by omega),if_pos h3]
   ·rw [List.getElem?_append_right (by rw [List.length_take]; omega),List.getElem?_append_right (by rw [List.length_take]; omega),List.length_take,List.length_take]
    have e1:i - min (j + 1) S.length = (i - (j + 2)) + 1:=by omega
    have e2:i - min j S.length = (i - (j + 2)) + 1 + 1:=by omega
    rw [e1,e2,List.getElem?_cons_succ,List.getElem?_cons_succ,List.drop_eq_getElem_cons hj,List.cons_append,List.getElem?_cons_succ]
end Go.Proofs.Ythgjnkdealdmoaa
namespace Go.Proofs.Ythgjnkdealdmoaa
open Go.Rx Go.RowKit
def cmpF100:Value:=.func (.func 100) ⟨[]⟩ ⟨[]⟩
theorem u8_id {n:Int} (h:0≤n∧n < 256):IsWrap .u8 n n:=by
 unfold IsWrap wrapI
 show n = (IntKind.wrap .u8 n)
 unfold IntKind.wrap
 simp [IntKind.bits,IntKind.signed]
 omega
attribute [local irreducible] E idxN cellAt cellsAt storeAt callable helems hmoved lookIn findKey keyOk hentries Hp.at Hp.set Hp.lay arBits hupdated setAt CallP YieldP BoolOf IsWrap Rnd LoopP AppP CutP Int.tmod Int.tdiv Int.fdiv
section
variable [Unknowns]
attribute [local irreducible] ResP sameAt flat
theorem sort_spec (h0:Hp) (a:Option Addr) (r c:Nat) (L:List (Int×Int)) (hl:L.length≤9) (h:Hp) (k0:EV h0 h a r L) :
  CallP E 135 [.slice a L.length c,int 0,int L.length,cmpF100] h (fun _ h'=>EV h0 h' a r (srt L L.length)):=by
 refine enter135 (by simp) ?_
 conv=>whnf
 refine SeqP.go ?_
 conv=>whnf
 refine ⟨1,wie (by omega) (by omega),?_⟩
 conv=>whnf
 refine loop_inv (α:=Nat×Hp) (fun s=>[(8,int s.1),(0,.slice a L.length c),(1,int 0),(2,int L.length),(3,cmpF100)]) (fun s=>s.2) (fun s=>1≤s.1∧(s.1≤L.length∨L.length = 0)∧EV h0 s.2 a r (srt L (min s.1 L.length) ++ L.drop s.1)) (fun s=>L.length - s.1) (1,h) ⟨Nat.le_refl _,by omega,?_⟩ ⟨rfl,rfl,rfl,rfl,rfl,trivial⟩ (Hp.Le.refl _) ?_
 ·rcases Nat.eq_zero_or_pos L.length with e | e
  ·have:L = []:=List.eq_nil_of_length_eq_zero e
   subst this
   exact k0
  ·have e2:min 1 L.length = 1:=by omega
   rw [e2]
   have e3:srt L 1 ++ L.drop 1 = L:=by
    show ins (edg L 0) [] ++ L.drop 1 = L
    rw [edg_get e]
    show [L[0]] ++ L.drop 1 = L
    have:=List.drop_eq_getElem_cons (l:=L) (i:=0) e
    rw [List.drop_zero] at this
    exact this.symm
   rw [e3]
   exact k0
 rintro ⟨i,H⟩ φ ⟨hi1,hi2,hk⟩
 dsimp only at hi1 hi2 hk ⊢
 conv=>whnf
 refine SeqP.go ?_
 conv=>whnf
 refine SeqP.go ?_
 conv=>whnf
 refine cmpB (fun c1=>?_) (fun c1=>?_)
 rotate_left
 ·have e1:srt L (min i L.length) ++ L.drop i = srt L L.length:=by
   rw [List.drop_eq_nil_of_le (by omega),List.append_nil,show min i L.length = L.length by omega]
  rw [e1] at hk
  conv=>whnf
  exact hk
 have hi:i < L.length:=by omega
 have e0:min i L.length = i:=by omega
 rw [e0] at hk
 have hsl:=srt_len L i
 have hss:=srt_sorted L i
 have hsn:srt L (i + 1) = ins L[i] (srt L i):=by show ins (edg L i) (srt L i) = _; rw [edg_get hi]
 have e1:srt L i ++ L.drop i = midL (srt L i) L[i] i (L.drop (i + 1)):=by
  unfold midL
  rw [List.take_of_length_le (by omega),List.drop_eq_nil_of_le (show (srt L i).length≤i by omega),List.nil_append,List.drop_eq_getElem_cons hi]
 rw [e1] at hk
 generalize srt L i = S at hk hsl hss hsn
 have hexx:∃ x,L[i] = x:=⟨_,rfl⟩
 obtain ⟨x,hx⟩:=hexx
 rw [hx] at hk hsn
 have hexR:∃ R,L.drop (i + 1) = R:=⟨_,rfl⟩
 obtain ⟨R,hR⟩:=hexR
 rw [hR] at hk
 have hRl:R.length = L.length - (i + 1):=by rw [← hR,List.length_drop]
 conv=>whnf
 refine SeqP.go ?_
 conv=>whnf
 refine SeqP.go ?_
 conv=>whnf
 refine loop_inv (α:=Nat×Hp) (fun s=>[(9,int s.1),(8,int i),(0,.slice a L.length c),(1,int 0),(2,int L.length),(3,cmpF100)]) (fun s=>s.2) (fun s=>s.1≤i∧(∀ q,(hq:q < S.length)→s.1≤q→PLess x S[q])∧EV h0 s.2 a r (midL S x s.1 R)) (fun s=>s.1) (i,H) ⟨Nat.le_refl _,fun q hq hiq=>absurd hiq (by omega),hk⟩ ⟨rfl,rfl,rfl,rfl,rfl,rfl,trivial⟩ (Hp.Le.refl _) ?_
 clear hk
 rintro ⟨j,H⟩ φ ⟨hj,hgt,hk⟩
 dsimp only at hj hgt hk ⊢
 have hml:=midL_len (S:=S) (x:=x) (R:=R) (j:=j) (by omega)
 have fin:(∀ q,(hq:q < S.length)→q < j→¬ PLess x S[q])→midL S x j R = srt L (min (i + 1) L.length) ++ L.drop (i + 1):=by
  intro hle
  rw [show min (i + 1) L.length = i + 1 by omega,hsn,hR,← ins_cut x S j (by omega) hle (fun h=>hgt j h (Nat.le_refl _))]
  unfold midL
  simp
 conv=>whnf
 refine SeqP.go ?_
 conv=>whnf
 refine SeqP.go ?_
 conv=>whnf
 refine cmpB (fun c2=>?_) (fun c2=>?_)
 rotate_left
 ·have hj0:j = 0:=by omega
  have fin:=fin fun q hq hqj=>by omega
  conv=>whnf
  refine ⟨_,wid (by omega),?_⟩
  conv=>whnf
  exact Rnd.mk (i + 1,H) ⟨by show 1≤i + 1; omega,by show i + 1≤L.length∨_; omega,by show EV h0 H a r (srt L (min (i + 1) L.length) ++ L.drop (i + 1)); rw [← fin]; exact hk⟩ (by show L.length - (i + 1) < L.length - i; omega) ⟨rfl,rfl,rfl,rfl,rfl,trivial⟩ (Hp.Le.refl _) rfl
 have hj0:0 < j:=by omega
 have hgj:=hk.get (i:=j) (by omega)
 have hgp:=hk.get (i:=j - 1) (by omega)
 have ej:(midL S x j R)[j]'(by omega) = x:=by
  have:=midL_at (S:=S) (x:=x) (R:=R) (j:=j) (by omega)
  rw [List.getElem?_eq_getElem (by omega)] at this
  exact Option.some.inj this
 have ep:(midL S x j R)[j - 1]'(by omega) = S[j - 1]'(by omega):=by
  have:=midL_pre (S:=S) (x:=x) (R:=R) (j:=j) (i:=j - 1) (by omega) (by omega)
  rw [List.getElem?_eq_getElem (by omega),List.getElem?_eq_getElem (by omega)] at this
  exact Option.some.inj this
 rw [ej] at hgj
 rw [ep] at hgp
 obtain ⟨rfl,cj⟩:=hgj
 have cp:=hgp.2
 conv=>whnf
 refine ⟨rfl,⟨by omega,by omega⟩,?_⟩
 conv=>whnf
 refine ⟨_,cj,?_⟩
 conv=>whnf
 refine ⟨((j - 1:Nat):Int),wie (by omega) (by omega),?_⟩
 conv=>whnf
 refine ⟨rfl,⟨by omega,by omega⟩,?_⟩
 conv=>whnf
 refine ⟨_,cp,?_⟩
 conv=>whnf
 refine ⟨can100,?_⟩
 refine CallP.mono (edges_spec x (S[j - 1]'(by omega)) H) ?_
 rintro rr H2 ⟨⟨z,rfl,hz1,-⟩,g2⟩
 have k2:=hk.ext g2
 have cj2:=g2.cells cj
 have cp2:=g2.cells cp
 conv=>whnf
 refine cmpB (fun c3=>?_) (fun c3=>?_)
 rotate_left
 ·have hnl:¬ PLess x (S[j - 1]'(by omega)):=fun y=>c3 (hz1.2 y)
  have fin:=fin fun q hq hqj hp=>by
   by_cases e:q = j - 1
   ·subst e; exact hnl hp
   ·exact hnl (less_le hp (List.pairwise_iff_getElem.1 hss q (j - 1) hq (by omega) (by omega)))
  conv=>whnf
  refine ⟨_,wid (by omega),?_⟩
  conv=>whnf
  exact Rnd.mk (i + 1,H2) ⟨by show 1≤i + 1; omega,by show i + 1≤L.length∨_; omega,by show EV h0 H2 _ r (srt L (min (i + 1) L.length) ++ L.drop (i + 1)); rw [← fin]; exact k2⟩ (by show L.length - (i + 1) < L.length - i; omega) ⟨rfl,rfl,rfl,rfl,rfl,trivial⟩ (Hp.Le.refl _) rfl
 have hlt:PLess x (S[j - 1]'(by omega)):=hz1.1 c3
 have hs1:=k2.set (i:=j) (by omega) (S[j - 1]'(by omega))
 obtain ⟨H3,hst3,k3⟩:=hs1
 have hs2:=k3.set (i:=j - 1) (by rw [List.length_set]; omega) x
 obtain ⟨H4,hst4,k4⟩:=hs2
 have esw:=midL_swap (S:=S) (x:=x) (R:=R) (j:=j - 1) (by omega)
 rw [show j - 1 + 1 = j by omega] at esw
 rw [esw] at k4
 conv=>whnf
 refine SeqP.go ?_
 conv=>whnf
 refine ⟨((j - 1:Nat):Int),wie (by omega) (by omega),?_⟩
 conv=>whnf
 refine ⟨((j - 1:Nat):Int),wie (by omega) (by omega),?_⟩
 conv=>whnf
 refine ⟨rfl,⟨by omega,by omega⟩,?_⟩
 conv=>whnf
 refine ⟨_,cp2,?_⟩
 conv=>whnf
 refine ⟨rfl,⟨by omega,by omega⟩,?_⟩
 conv=>whnf
 refine ⟨_,cj2,?_⟩
 conv=>whnf
 refine ⟨rfl,⟨by omega,by omega⟩,?_⟩
 conv=>whnf
 refine ⟨rfl,H3,hst3,?_⟩
 conv=>whnf
 refine ⟨rfl,⟨by omega,by omega⟩,?_⟩
 conv=>whnf
 refine ⟨rfl,H4,hst4,?_⟩
 conv=>whnf
 refine ⟨?_,?_⟩
 rotate_left
 ·conv=>whnf
  refine ⟨((j - 1:Nat):Int),wie (by omega) (by omega),?_⟩
  conv=>whnf
  exact Rnd.mk (j - 1,H4) ⟨by show j - 1≤i; omega,fun q hq hjq=>by
   have hjq:j - 1≤q:=hjq
   by_cases e:q = j - 1
   ·subst e; exact hlt
   ·exact hgt q hq (by omega),k4⟩ (by show j - 1 < j; omega) ⟨rfl,rfl,rfl,rfl,rfl,rfl,trivial⟩ (Hp.Le.refl _) rfl
 repeat' (first | exact True.intro | (refine And.intro ?_ ?_ <;> (conv=>whnf)))
 all_goals first
  | exact sameAt_val (h2:=_) rfl (sameV_int _)
  | exact sameAt_val (h2:=_) rfl (sameV_slice _ _ _)
  | exact sameAt_val (h2:=_) (show hval _ (arK .i64 .sub _ _) = _ from sub_val (by omega) (by omega)) (sameV_int _)
theorem len64_spec (s:Nat) (hs:s < 10) (h:Hp):CallP E 144 [u64 s] h (fun r h'=>(∃ z:Int,r = int z)∧h' = h):=by
 refine enter144 (by simp) ?_
 conv=>whnf
 refine SeqP.go ?_
 conv=>whnf
 repeat (refine SeqP.go ?_; conv=>whnf)
 refine cmpF (by omega) ?_
 conv=>whnf
 repeat (refine SeqP.go ?_; conv=>whnf)
 refine cmpF (by omega) ?_
 conv=>whnf
 repeat (refine SeqP.go ?_; conv=>whnf)
 refine cmpF (by omega) ?_
 conv=>whnf
 repeat (refine SeqP.go ?_; conv=>whnf)
 refine ⟨(s:Int),u8_id (by omega),?_⟩
 conv=>whnf
 refine ⟨⟨by omega,Int.lt_of_lt_of_le (show (s:Int) < 10 by omega) (by decide)⟩,?_⟩
 have hs2:s = 0∨s = 1∨s = 2∨s = 3∨s = 4∨s = 5∨s = 6∨s = 7∨s = 8∨s = 9:=by omega
 rcases hs2 with rfl | rfl | rfl | rfl | rfl | rfl | rfl | rfl | rfl | rfl
 ·refine ⟨_,rfl,?_⟩
  conv=>whnf
  refine ⟨_,wid (by decide),?_⟩
  conv=>whnf
  refine ⟨_,wid (by decide),?_⟩
  conv=>whnf
  repeat (refine SeqP.go ?_; conv=>whnf)
  exact ⟨⟨_,rfl⟩,rfl⟩
 ·refine ⟨_,rfl,?_⟩
  conv=>whnf
  refine ⟨_,wid (by decide),?_⟩
  conv=>whnf
  refine ⟨_,wid (by decide),?_⟩
  conv=>whnf
  repeat (refine SeqP.go ?_; conv=>whnf)
  exact ⟨⟨_,rfl⟩,rfl⟩
 ·refine ⟨_,rfl,?_⟩
  conv=>whnf
  refine ⟨_,wid (by decide),?_⟩
  conv=>whnf
  refine ⟨_,wid (by decide),?_⟩
  conv=>whnf
  repeat (refine SeqP.go ?_; conv=>whnf)
  exact ⟨⟨_,rfl⟩,rfl⟩
 ·refine ⟨_,rfl,?_⟩
  conv=>whnf
  refine ⟨_,wid (by decide),?_⟩
  conv=>whnf
  refine ⟨_,wid (by decide),?_⟩
  conv=>whnf
  repeat (refine SeqP.go ?_; conv=>whnf)
  exact ⟨⟨_,rfl⟩,rfl⟩
 ·refine ⟨_,rfl,?_⟩
  conv=>whnf
  refine ⟨_,wid (by decide),?_⟩
  conv=>whnf
  refine ⟨_,wid (by decide),?_⟩
  conv=>whnf
  repeat (refine SeqP.go ?_; conv=>whnf)
  exact ⟨⟨_,rfl⟩,rfl⟩
 ·refine ⟨_,rfl,?_⟩
  conv=>whnf
  refine ⟨_,wid (by decide),?_⟩
  conv=>whnf
  refine ⟨_,wid (by decide),?_⟩
  conv=>whnf
  repeat (refine SeqP.go ?_; conv=>whnf)
  exact ⟨⟨_,rfl⟩,rfl⟩
 ·refine ⟨_,rfl,?_⟩
  conv=>whnf
  refine ⟨_,wid (by decide),?_⟩
  conv=>whnf
  refine ⟨_,wid (by decide),?_⟩
  conv=>whnf
  repeat (refine SeqP.go ?_; conv=>whnf)
  exact ⟨⟨_,rfl⟩,rfl⟩
 ·refine ⟨_,rfl,?_⟩
  conv=>whnf
  refine ⟨_,wid (by decide),?_⟩
  conv=>whnf
  refine ⟨_,wid (by decide),?_⟩
  conv=>whnf
  repeat (refine SeqP.go ?_; conv=>whnf)
  exact ⟨⟨_,rfl⟩,rfl⟩
 ·refine ⟨_,rfl,?_⟩
  conv=>whnf
  refine ⟨_,wid (by decide),?_⟩
  conv=>whnf
  refine ⟨_,wid (by decide),?_⟩
  conv=>whnf
  repeat (refine SeqP.go ?_; conv=>whnf)
  exact ⟨⟨_,rfl⟩,rfl⟩
 ·refine ⟨_,rfl,?_⟩
  conv=>whnf
  refine ⟨_,wid (by decide),?_⟩
  conv=>whnf
  refine ⟨_,wid (by decide),?_⟩
  conv=>whnf
  repeat (refine SeqP.go ?_; conv=>whnf)
  exact ⟨⟨_,rfl⟩,rfl⟩
theorem len_spec (s:Nat) (hs:s < 10) (h:Hp):CallP E 132 [u64 s] h (fun r h'=>(∃ z:Int,r = int z)∧h' = h):=by
 refine enter132 (by simp) ?_
 conv=>whnf
 repeat (refine SeqP.go ?_; conv=>whnf)
 refine CallP.mono (len64_spec s hs h) ?_
 rintro r h ⟨⟨z,rfl⟩,rfl⟩
 conv=>whnf
 repeat (refine SeqP.go ?_; conv=>whnf)
 exact ⟨⟨z,rfl⟩,rfl⟩
theorem pdq_spec (h0:Hp) (a:Option Addr) (r c:Nat) (L:List (Int×Int)) (hl:L.length≤9) (z:Int) (h:Hp) (k0:EV h0 h a r L) :
  CallP E 131 [.slice a L.length c,int 0,int L.length,int z,cmpF100] h (fun _ h'=>EV h0 h' a r (srt L L.length)):=by
 refine enter131 (by simp) ?_
 conv=>whnf
 refine SeqP.go ?_
 conv=>whnf
 refine SeqP.go ?_
 conv=>whnf
 refine loop_inv (α:=Unit) (fun _=>[(0,.slice a L.length c),(1,int 0),(2,int L.length),(4,cmpF100)]) (fun _=>h) (fun _=>True) (fun _=>0) () trivial ⟨rfl,rfl,rfl,rfl,trivial⟩ (Hp.Le.refl _) ?_
 rintro _ φ _
 conv=>whnf
 refine SeqP.go ?_
 conv=>whnf
 refine ⟨(L.length:Int),wie (by omega) (by omega),?_⟩
 conv=>whnf
 refine SeqP.go ?_
 conv=>whnf
 refine SeqP.go ?_
 conv=>whnf
 refine cmpT (by omega) ?_
 conv=>whnf
 refine SeqP.go ?_
 conv=>whnf
 refine CallP.mono (sort_spec h0 a r c L hl h k0) ?_
 intro v h' hk
 conv=>whnf
 exact hk
theorem SortFunc_spec (h0:Hp) (a:Option Addr) (r c:Nat) (L:List (Int×Int)) (hl:L.length≤9) (h:Hp) (k0:EV h0 h a r L) :
  CallP E 119 [.slice a L.length c,cmpF100] h (fun _ h'=>EV h0 h' a r (srt L L.length)):=by
 refine enter119 (by simp) ?_
 conv=>whnf
 refine SeqP.go ?_
 conv=>whnf
 refine ⟨(L.length:Int),u64_id (by omega),?_⟩
 conv=>whnf
 refine CallP.mono (len_spec L.length (by omega) h) ?_
 rintro rr h ⟨⟨z,rfl⟩,rfl⟩
 conv=>whnf
 refine CallP.mono (pdq_spec h0 a r c L hl z h k0) ?_
 intro v h' hk
 conv=>whnf
 exact hk
end
end Go.Proofs.Ythgjnkdealdmoaa
namespace Go.Proofs.Ythgjnkdealdmoaa
open Go.Rx Go.RowKit
def mvE (i k:Int) (e:Int×Int):Int×Int:=(min (mvd i k e.1) (mvd i k e.2),max (mvd i k e.1) (mvd i k e.2))
def mvK (i k:Int) (L:List (Int×Int)) (e:Nat):List (Int×Int):=(L.take e).map (mvE i k) ++ L.drop e
theorem mvK_len (i k:Int) (L:List (Int×Int)) (e:Nat):(mvK i k L e).length = L.length:=by unfold mvK; simp; omega
theorem mvK_get {i k:Int} {L:List (Int×Int)} {e:Nat} (he:e < L.length):(mvK i k L e)[e]'(by rw [mvK_len]; exact he) = L[e]:=by
 unfold mvK
 rw [List.getElem_append_right (by rw [List.length_map,List.length_take]; omega)]
 simp only [List.length_map,List.length_take,List.getElem_drop]
 congr 1
 omega
theorem mvK_set {i k:Int} {L:List (Int×Int)} {e:Nat} (he:e < L.length):(mvK i k L e).set e (mvE i k L[e]) = mvK i k L (e + 1):=by
 unfold mvK
 rw [List.set_append_right _ _ (by rw [List.length_map,List.length_take]; omega),List.length_map,List.length_take,show e - min e L.length = 0 by omega,List.drop_eq_getElem_cons he,List.set_cons_zero,List.take_succ_eq_append_getElem he,List.map_append,List.append_assoc]
 rfl
def loopB (P:List (Int×Int)) (k:Nat):Bool:=decide ((edg P k).1 = (edg P k).2)
def mvP (P:List (Int×Int)) (k:Nat):List (Int×Int):=(lessP P k).map (mvE (edg P k).1 (edg P k).2)
def joinL (P:List (Int×Int)) (k:Nat):List (Int×Int):=if loopB P k = true then lessP P k else srt (mvP P k) (mvP P k).length
def joinN (n:Nat) (P:List (Int×Int)) (k:Nat):Nat:=if loopB P k = true then n else n - 1
theorem mvP_len {P:List (Int×Int)} {k:Nat} (hk:k < P.length):(mvP P k).length = P.length - 1:=by unfold mvP; rw [List.length_map,lessP_len hk]
theorem joinL_len {P:List (Int×Int)} {k:Nat} (hk:k < P.length):(joinL P k).length = P.length - 1:=by
 unfold joinL
 split
 ·exact lessP_len hk
 ·rw [srt_len,mvP_len hk]
theorem mvK_zero (i k:Int) (L:List (Int×Int)):mvK i k L 0 = L:=by simp [mvK]
theorem mvK_all (i k:Int) (L:List (Int×Int)):mvK i k L L.length = L.map (mvE i k):=by simp [mvK]
theorem EV.over {h0 H:Hp} {a:Option Addr} {r q:Nat} {o:Rx.Obj} {L:List (Int×Int)} (k:EV h0 H a r L) (hq:q≠r):EV (H.set q o) (H.set q o) a r L :=
 ⟨Nat.le_refl _,fun _ _ _ e=>e,k.obj.imp id fun ⟨e,x,hx⟩=>⟨e,x,by rw [Hp.at_set_ne _ (fun y=>hq y.symm)]; exact hx⟩⟩
attribute [local irreducible] E idxN cellAt cellsAt storeAt callable helems hmoved lookIn findKey keyOk hentries Hp.at Hp.set Hp.lay arBits hupdated setAt CallP YieldP BoolOf IsWrap Rnd LoopP AppP CutP Int.tmod Int.tdiv Int.fdiv
section
variable [Unknowns]
attribute [local irreducible] ResP sameAt flat finP
theorem joined_spec (n:Nat) (P:List (Int×Int)) (hP:NetOk n P) (hl:P.length≤9) (k:Nat) (hk:k < P.length) (v:Value) (h0 h:Hp) (hv:GB h0 h v P) :
  CallP E 93 [gval n v,int k] h (fun r h'=>(∃ a,r = gval (joinN n P k) (.slice a (P.length - 1) (P.length - 1))∧GB h h' (.slice a (P.length - 1) (P.length - 1)) (joinL P k))∧Grows h h'):=by
 have hpv:=hv.pairs
 have hn:=hP.n1
 obtain ⟨av,cap,rfl⟩:=oneGB hv
 have hgt:=PairsV.get hpv hk
 obtain ⟨ro,oo,co,eP,p0,p1⟩:=hgt
 injection eP with eP1 _ eP2
 subst eP1; subst eP2
 have hll:=lessP_len hk
 have hok:=hP.ok _ (List.getElem_mem hk)
 have hedg:=edg_get hk
 have hex1:∃ H1,h.lay (.row 83 true [int n,.slice (some ⟨ro,oo,none⟩) P.length cap]) = H1:=⟨_,rfl⟩
 obtain ⟨H0,hH0⟩:=hex1
 have a83:H0.at h.next = some (.row 83 true [int n,.slice (some ⟨ro,oo,none⟩) P.length cap]):=by rw [← hH0]; exact Hp.at_lay_self _ _
 have g0:Grows h H0:=by rw [← hH0]; exact Grows.lay _ _
 have hex2:∃ H2,H0.lay (.row 83 true [int 0,.slice none 0 0]) = H2:=⟨_,rfl⟩
 obtain ⟨H2,hH2⟩:=hex2
 have aR:H2.at H0.next = some (.row 83 true [int 0,.slice none 0 0]):=by rw [← hH2]; exact Hp.at_lay_self _ _
 have g2:Grows H0 H2:=by rw [← hH2]; exact Grows.lay _ _
 have nn:=g0.next
 have hRlt:=Hp.lt_of_at aR
 have hDlt:=Hp.lt_of_at a83
 refine enter93 (by simp) ?_
 conv=>whnf
 refine SeqP.cut (α:=Unit) (fun _=>[(2,ptr h.next 0),(4,ptr H0.next 0),(1,int k)]) (fun _ H=>H = H2) ?_ ?_
 ·conv=>whnf
  exact ⟨(),⟨rfl,by rw [← hH0]; rfl,rfl,trivial⟩,by rw [← hH2,← hH0],rfl⟩
 rintro _ φ H2 rfl
 have a83':=g2.at_ _ _ a83
 conv=>whnf
 refine SeqP.cut (α:=Option Addr×Nat×Hp) (fun s=>[(5,ptr s.2.1 0),(2,ptr h.next 0),(4,ptr H0.next 0),(1,int k)]) (fun s H=>H = s.2.2∧s.2.2.at s.2.1 = some (.row 83 true [int n,.slice s.1 (P.length - 1) (P.length - 1)])∧Grows H2 s.2.2∧H2.next≤s.2.1∧∃ r,H2.next≤r∧r≠s.2.1∧EV s.2.2 s.2.2 s.1 r (lessP P k)) ?_ ?_
 ·conv=>whnf
  refine ⟨_,cellsAt_row a83' (by simp),?_⟩
  conv=>whnf
  refine CallP.mono (without_spec n P hl k hk _ h0 H2 (hv.ext (g0.trans g2))) ?_
  rintro rr H3 ⟨⟨a,c,rfl,hgb⟩,g3⟩
  have hof:=EV.of hgb
  obtain ⟨-,rfl,r,hr,hrne,hev⟩:=hof
  conv=>whnf
  refine ⟨rfl,_,storeAt_full (vs:=[int n,.slice a (P.length - 1) (P.length - 1)]) (Hp.at_lay_self _ _) rfl rfl rfl,?_⟩
  generalize hH4:(H3.lay (.row 83 true [int 0,.slice none 0 0])).set H3.next (.row 83 true [int n,.slice a (P.length - 1) (P.length - 1)]) = H4
  have a4:H4.at H3.next = some (.row 83 true [int n,.slice a (P.length - 1) (P.length - 1)]):=by rw [← hH4]; exact Hp.at_set_self _ (Hp.lt_of_at (Hp.at_lay_self _ _))
  have g4:Grows H3 H4:=by rw [← hH4]; exact (Grows.lay _ _).then_set _ (Nat.le_refl _)
  have hev4:=hev.ext g4
  conv=>whnf
  exact ⟨(a,H3.next,H4),⟨rfl,rfl,rfl,rfl,trivial⟩,⟨rfl,a4,g3.trans g4,g3.next,r,hr,hrne,⟨Nat.le_refl _,fun _ _ _ e=>e,hev4.obj⟩⟩,rfl⟩
 rintro ⟨a,G,_⟩ φ H4 ⟨rfl,aG,g4,hG,r,hr,hrG,hev⟩
 dsimp only at aG g4 hG hrG hev ⊢
 have hGlt:=Hp.lt_of_at aG
 have g04:=(g0.trans g2).trans g4
 have a834:=g4.at_ _ _ a83'
 have n2:=g2.next
 conv=>whnf
 refine SeqP.go ?_
 conv=>whnf
 refine SeqP.go ?_
 conv=>whnf
 refine ⟨_,cellsAt_row a834 (by simp),?_⟩
 conv=>whnf
 refine CallP.mono (isLoop_spec n P hl k hk _ H4 (hpv.ext g04)) ?_
 rintro rr H5 ⟨⟨b,rfl,hb⟩,g5⟩
 have ev5:=hev.ext g5
 have g05:=g04.trans g5
 have aR5:=g5.at_ _ _ (g4.at_ _ _ aR)
 have a835:=g5.at_ _ _ a834
 have aG5:=g5.at_ _ _ aG
 have elB:loopB P k = b:=by
  unfold loopB
  rw [hedg]
  cases b with
  | true=>exact decide_eq_true (hb.1 rfl)
  | false=>exact decide_eq_false fun e=>by cases hb.2 e
 cases b with
 | true =>
  have eJ:joinL P k = lessP P k:=by unfold joinL; rw [if_pos elB]
  have eN:joinN n P k = n:=by unfold joinN; rw [if_pos elB]
  rw [eJ,eN]
  conv=>whnf
  refine SeqP.go ?_
  conv=>whnf
  refine ⟨_,cellsAt_row aG5 (by simp),?_⟩
  conv=>whnf
  refine ⟨rfl,_,storeAt_full (vs:=[int n,.slice a (P.length - 1) (P.length - 1)]) aR5 rfl rfl rfl,?_⟩
  conv=>whnf
  refine leave_cell (i:=(tiOf Try.prog 83).get ty83) (r:=H0.next) (o:=0) (cs:=[int n,.slice a (P.length - 1) (P.length - 1)]) rfl te83 ag83 ?_ ?_
  ·rw [sz83,cellsAt_row (Hp.at_set_self _ (Hp.lt_of_at aR5)) (Nat.le_refl _)]
   rfl
  ·refine ⟨⟨a,rfl,?_⟩,g05.then_set _ nn⟩
   have:=EV.gb (h:=h) (ev5.over (q:=H0.next) (o:=.row 83 true [int n,.slice a (P.length - 1) (P.length - 1)]) (by omega)) (by omega)
   rw [hll] at this
   exact this
 | false =>
  have eJ:joinL P k = srt (mvP P k) (mvP P k).length:=by unfold joinL; rw [if_neg (by rw [elB]; simp)]
  have eN:joinN n P k = n - 1:=by unfold joinN; rw [if_neg (by rw [elB]; simp)]
  rw [eJ,eN]
  have hml:=mvP_len hk
  have q0:=g05.cell p0
  have q1:=g05.cell p1
  have hmP:mvP P k = (lessP P k).map (mvE (P[k]).1 (P[k]).2):=by unfold mvP; rw [hedg]
  conv=>whnf
  refine SeqP.cut (α:=Unit) (fun _=>[(6,int (P[k]).1),(7,int (P[k]).2),(5,ptr G 0),(4,ptr H0.next 0)]) (fun _ H=>H = H5) ?_ ?_
  ·conv=>whnf
   refine ⟨_,cellAt_row a835 rfl,?_⟩
   conv=>whnf
   refine ⟨rfl,⟨by omega,by omega⟩,?_⟩
   conv=>whnf
   refine ⟨⟨by omega,by omega⟩,?_⟩
   conv=>whnf
   refine ⟨_,q0,?_⟩
   conv=>whnf
   refine ⟨_,cellAt_row a835 rfl,?_⟩
   conv=>whnf
   refine ⟨rfl,⟨by omega,by omega⟩,?_⟩
   conv=>whnf
   refine ⟨⟨by omega,by omega⟩,?_⟩
   conv=>whnf
   refine ⟨_,q1,?_⟩
   conv=>whnf
   exact ⟨(),⟨rfl,rfl,rfl,rfl,trivial⟩,rfl,rfl⟩
  rintro _ φ H5 rfl
  have hokL:∀ x ∈ lessP P k,0≤x.1∧x.1≤x.2∧x.2 < n:=fun x hx=>hP.ok x (by unfold lessP at hx; rcases List.mem_append.1 hx with hx | hx; exact List.mem_of_mem_take hx; exact List.mem_of_mem_drop hx)
  have hexL:∃ L,lessP P k = L:=⟨_,rfl⟩
  obtain ⟨L,hL⟩:=hexL
  rw [hL] at hokL ev5 hmP hll
  conv=>whnf
  refine SeqP.cut (α:=Hp) (fun _=>[(5,ptr G 0),(4,ptr H0.next 0)]) (fun s H=>H = s∧EV H5 s a r (mvP P k)) ?_ ?_
  ·conv=>whnf
   refine SeqP.go ?_
   conv=>whnf
   refine ⟨_,cellAt_row aG5 rfl,?_⟩
   conv=>whnf
   refine loop_inv (α:=Nat×Hp) (fun s=>[(34,int s.1),(33,int ((P.length - 1:Nat):Int)),(32,.slice a (P.length - 1) (P.length - 1)),(6,int (P[k]).1),(7,int (P[k]).2),(5,ptr G 0),(4,ptr H0.next 0)]) (fun s=>s.2) (fun s=>s.1≤L.length∧EV H5 s.2 a r (mvK (P[k]).1 (P[k]).2 L s.1)) (fun s=>L.length - s.1) (0,H5) ⟨Nat.zero_le _,by rw [mvK_zero]; exact ⟨Nat.le_refl _,fun _ _ _ e=>e,ev5.obj⟩⟩ ⟨rfl,rfl,rfl,rfl,rfl,rfl,rfl,trivial⟩ (Hp.Le.refl _) ?_
   rintro ⟨e,H⟩ φ ⟨he,hk6⟩
   dsimp only at he hk6 ⊢
   conv=>whnf
   refine SeqP.go ?_
   conv=>whnf
   refine cmpB (fun c1=>?_) (fun c1=>?_)
   rotate_left
   ·have:e = L.length:=by omega
    subst this
    rw [mvK_all,← hmP] at hk6
    conv=>whnf
    exact ⟨H,⟨rfl,rfl,trivial⟩,⟨rfl,hk6⟩,rfl⟩
   have he':e < L.length:=by omega
   have hml6:=mvK_len (P[k]).1 (P[k]).2 L e
   have hge:=hk6.get (i:=e) (by omega)
   rw [mvK_get he'] at hge
   obtain ⟨rfl,ce⟩:=hge
   have hx:=hokL _ (List.getElem_mem he')
   have hse:=mvK_set (i:=(P[k]).1) (k:=(P[k]).2) he'
   generalize L[e] = x at ce hx hse
   conv=>whnf
   refine SeqP.go ?_
   conv=>whnf
   refine SeqP.go ?_
   conv=>whnf
   refine ⟨rfl,⟨by omega,by omega⟩,?_⟩
   conv=>whnf
   refine ⟨_,ce,?_⟩
   conv=>whnf
   refine ⟨rfl,_,store2,?_⟩
   have aD:(H.lay (.row 79 true [int x.1,int x.2])).at H.next = some (.row 79 true [int x.1,int x.2]):=Hp.at_lay_self _ _
   have k7:=hk6.ext (Grows.lay H (.row 79 true [int x.1,int x.2]))
   generalize hH7:H.lay (.row 79 true [int x.1,int x.2]) = H7 at aD k7
   have d0:cellAt H7 H.next (0 + 0) = some (int x.1):=cellAt_row aD rfl
   have d1:cellAt H7 H.next (1 + 0) = some (int x.2):=cellAt_row aD rfl
   generalize H.next = D at d0 d1
   conv=>whnf
   refine SeqP.cut (α:=Unit) (fun _=>[(10,int (mvd (P[k]).1 (P[k]).2 x.1)),(11,int (mvd (P[k]).1 (P[k]).2 x.2)),(8,int e),(34,int e),(33,int ((P.length - 1:Nat):Int)),(32,.slice (some ⟨r,0,none⟩) (P.length - 1) (P.length - 1)),(6,int (P[k]).1),(7,int (P[k]).2),(5,ptr G 0),(4,ptr H0.next 0)]) (fun _ H=>H = H7) ?_ ?_
   ·conv=>whnf
    refine ⟨⟨by omega,by omega⟩,?_⟩
    conv=>whnf
    refine ⟨_,d0,?_⟩
    conv=>whnf
    refine CallP.mono (renamed_spec x.1 _ _ (by omega) H7) ?_
    rintro rr H7 ⟨rfl,rfl⟩
    conv=>whnf
    refine ⟨⟨by omega,by omega⟩,?_⟩
    conv=>whnf
    refine ⟨_,d1,?_⟩
    conv=>whnf
    refine CallP.mono (renamed_spec x.2 _ _ (by omega) H7) ?_
    rintro rr H7 ⟨rfl,rfl⟩
    conv=>whnf
    refine ⟨?_,?_⟩
    rotate_left
    ·conv=>whnf
     exact ⟨(),⟨rfl,rfl,rfl,rfl,rfl,rfl,rfl,rfl,rfl,rfl,trivial⟩,rfl,rfl⟩
    repeat' (first | exact True.intro | (refine And.intro ?_ ?_ <;> (conv=>whnf)))
    all_goals first
     | exact sameAt_val (h2:=_) rfl (sameV_int _)
     | exact sameAt_val (h2:=_) rfl (sameV_ptr _ _)
     | exact sameAt_val (h2:=_) (congrArg (hval _) d1) (sameV_int _)
     | exact sameAt_val (h2:=_) (show hval _ (idxAV 2 1 (ptr _ _) (int 1)) = _ from idxA_val' ⟨by omega,by omega⟩) (sameV_ptr _ _)
   rintro _ φ H7 rfl
   have hlen7:=mvK_len (P[k]).1 (P[k]).2 L e
   have hs7:=k7.set (i:=e) (by omega) (mvE (P[k]).1 (P[k]).2 x)
   obtain ⟨H8,hst8,k8⟩:=hs7
   rw [hse] at k8
   have aG7:=k7.at_ _ _ (fun y=>hrG y.symm) aG5
   have hst8:storeAt H7 r (offAt 0 (e:Int).toNat 2) [int (min (mvd (P[k]).1 (P[k]).2 x.1) (mvd (P[k]).1 (P[k]).2 x.2)),int (max (mvd (P[k]).1 (P[k]).2 x.1) (mvd (P[k]).1 (P[k]).2 x.2))] = some H8:=hst8
   generalize mvd (P[k]).1 (P[k]).2 x.1 = y at hst8
   generalize mvd (P[k]).1 (P[k]).2 x.2 = z at hst8
   conv=>whnf
   refine ⟨_,cellAt_row aG7 rfl,?_⟩
   conv=>whnf
   refine resP_val (v:=int (min y z)) (h:=H7) ?_ ?_
   ·conv=>lhs; whnf
    refine congrArg (fun n=>HRes.val (Value.int .i64 n) H7) ?_
    split <;> omega
   conv=>whnf
   refine resP_val (v:=int (max y z)) (h:=H7) ?_ ?_
   ·conv=>lhs; whnf
    refine congrArg (fun n=>HRes.val (Value.int .i64 n) H7) ?_
    split <;> omega
   conv=>whnf
   refine ⟨rfl,⟨by omega,by omega⟩,?_⟩
   conv=>whnf
   refine ⟨rfl,H8,hst8,?_⟩
   conv=>whnf
   refine ⟨_,wid (by omega),?_⟩
   conv=>whnf
   exact Rnd.mk (e + 1,H8) ⟨by show e + 1≤L.length; omega,k8⟩ (by show L.length - (e + 1) < L.length - e; omega) ⟨rfl,rfl,rfl,rfl,rfl,rfl,rfl,trivial⟩ (Hp.Le.refl _) rfl
  rintro _ φ H6 ⟨rfl,k6⟩
  have aG6:=k6.at_ _ _ (fun y=>hrG y.symm) aG5
  have aR6:=k6.at_ _ _ (by omega) aR5
  have hso:=SortFunc_spec H5 a r (P.length - 1) (mvP P k) (by omega) H6 k6
  rw [hml] at hso ⊢
  conv=>whnf
  refine SeqP.go ?_
  conv=>whnf
  refine ⟨_,cellAt_row aG6 rfl,?_⟩
  conv=>whnf
  refine CallP.mono hso ?_
  intro vv H7 k7
  have aG7:=k7.at_ _ _ (fun y=>hrG y.symm) aG5
  have aR7:=k7.at_ _ _ (by omega) aR5
  have g7:=k7.grows g05 (by omega)
  have aG8:(H7.set G (.row 83 true [int ((n - 1:Nat):Int),.slice a (P.length - 1) (P.length - 1)])).at G = some (.row 83 true [int ((n - 1:Nat):Int),.slice a (P.length - 1) (P.length - 1)]):=Hp.at_set_self _ (Hp.lt_of_at aG7)
  have aR8:(H7.set G (.row 83 true [int ((n - 1:Nat):Int),.slice a (P.length - 1) (P.length - 1)])).at H0.next = some (.row 83 true [int 0,.slice none 0 0]):=by rw [Hp.at_set_ne _ (by omega)]; exact aR7
  have k8:=k7.over (q:=G) (o:=.row 83 true [int ((n - 1:Nat):Int),.slice a (P.length - 1) (P.length - 1)]) (fun y=>hrG y.symm)
  have g8:=g7.then_set (r:=G) (.row 83 true [int ((n - 1:Nat):Int),.slice a (P.length - 1) (P.length - 1)]) (by omega)
  conv=>whnf
  refine SeqP.go ?_
  conv=>whnf
  refine ⟨_,cellAt_row aG7 rfl,?_⟩
  conv=>whnf
  refine ⟨((n - 1:Nat):Int),wie (by omega) (by omega),?_⟩
  conv=>whnf
  have hst8:storeAt H7 G 0 [int ((n - 1:Nat):Int)] = some (H7.set G (.row 83 true [int ((n - 1:Nat):Int),.slice a (P.length - 1) (P.length - 1)])):=storeAt_row aG7 (by simp) rfl
  generalize H7.set G (.row 83 true [int ((n - 1:Nat):Int),.slice a (P.length - 1) (P.length - 1)]) = H8 at aG8 aR8 k8 g8 hst8
  refine ⟨rfl,H8,hst8,?_⟩
  conv=>whnf
  refine SeqP.go ?_
  conv=>whnf
  refine ⟨_,cellsAt_row aG8 (by simp),?_⟩
  conv=>whnf
  refine ⟨rfl,_,storeAt_full (vs:=[int ((n - 1:Nat):Int),.slice a (P.length - 1) (P.length - 1)]) aR8 rfl rfl rfl,?_⟩
  conv=>whnf
  repeat (refine SeqP.go ?_; conv=>whnf)
  refine leave_cell (i:=(tiOf Try.prog 83).get ty83) (r:=H0.next) (o:=0) (cs:=[int ((n - 1:Nat):Int),.slice a (P.length - 1) (P.length - 1)]) rfl te83 ag83 ?_ ?_
  ·rw [sz83,cellsAt_row (Hp.at_set_self _ (Hp.lt_of_at aR8)) (Nat.le_refl _)]
   rfl
  ·refine ⟨⟨a,rfl,?_⟩,g8.then_set _ nn⟩
   have:=EV.gb (h:=h) (k8.over (q:=H0.next) (o:=.row 83 true [int ((n - 1:Nat):Int),.slice a (P.length - 1) (P.length - 1)]) (by omega)) (by omega)
   rw [srt_len] at this
   exact this
end
end Go.Proofs.Ythgjnkdealdmoaa
namespace Go.Proofs.Ythgjnkdealdmoaa
open Go.Rx Go.RowKit
attribute [local irreducible] E idxN cellAt cellsAt storeAt callable helems hmoved lookIn findKey keyOk hentries Hp.at Hp.set Hp.lay arBits hupdated setAt CallP YieldP BoolOf IsWrap Rnd LoopP AppP CutP Int.tmod Int.tdiv Int.fdiv
section
variable [Unknowns]
attribute [local irreducible] ResP sameAt flat
theorem Without_spec (n:Nat) (P:List (Int×Int)) (hP:NetOk n P) (hl:P.length≤9) (k:Nat) (hk:k < P.length) (v:Value) (h0 h:Hp) (hv:GB h0 h v P) :
  CallP E 50 [int n,v,int k] h (fun r h'=>(∃ a,r = .tuple ⟨[int n,.slice a (P.length - 1) (P.length - 1),int 0]⟩∧GB h h' (.slice a (P.length - 1) (P.length - 1)) (lessP P k))∧Grows h h'):=by
 have hpv:=hv.pairs
 obtain ⟨av,cap,rfl⟩:=oneGB hv
 refine enter50 (by simp) ?_
 conv=>whnf
 repeat (refine SeqP.go ?_; conv=>whnf)
 refine CallP.mono (withEdge_spec n P hP hl k hk _ h hpv) ?_
 rintro r H1 ⟨rfl,g1⟩
 conv=>whnf
 refine ⟨rfl,_,storeAt_full (vs:=[int n,.slice av P.length cap]) (Hp.at_lay_self _ _) rfl rfl rfl,?_⟩
 generalize hH2:(H1.lay (.row 83 true [int 0,.slice none 0 0])).set H1.next (.row 83 true [int n,.slice av P.length cap]) = H2
 have a2:H2.at H1.next = some (.row 83 true [int n,.slice av P.length cap]):=by rw [← hH2]; exact Hp.at_set_self _ (Hp.lt_of_at (Hp.at_lay_self _ _))
 have g2:Grows H1 H2:=by rw [← hH2]; exact (Grows.lay _ _).then_set _ (Nat.le_refl _)
 conv=>whnf
 repeat (refine SeqP.go ?_; conv=>whnf)
 refine cmpF (by omega) ?_
 conv=>whnf
 repeat (refine SeqP.go ?_; conv=>whnf)
 refine ⟨_,cellsAt_row a2 (by simp),?_⟩
 conv=>whnf
 refine CallP.mono (without_spec n P hl k hk _ h0 H2 (hv.ext (g1.trans g2))) ?_
 rintro r H3 ⟨⟨a,c,rfl,hb3⟩,g3⟩
 have hof:=EV.of hb3
 obtain ⟨-,rfl,-⟩:=hof
 conv=>whnf
 refine ⟨rfl,_,storeAt_full (vs:=[int n,.slice a (P.length - 1) (P.length - 1)]) (Hp.at_lay_self _ _) rfl rfl rfl,?_⟩
 generalize hH4:(H3.lay (.row 83 true [int 0,.slice none 0 0])).set H3.next (.row 83 true [int n,.slice a (P.length - 1) (P.length - 1)]) = H4
 have a4:H4.at H3.next = some (.row 83 true [int n,.slice a (P.length - 1) (P.length - 1)]):=by rw [← hH4]; exact Hp.at_set_self _ (Hp.lt_of_at (Hp.at_lay_self _ _))
 have g4:Grows H3 H4:=by rw [← hH4]; exact (Grows.lay _ _).then_set _ (Nat.le_refl _)
 have g02:=g1.trans g2
 have hb4:GB h H4 (.slice a (P.length - 1) (P.length - 1)) (lessP P k):=by
  have hb:=hb3.ext g4
  unfold GB at hb ⊢
  exact hb.back g02.next
 conv=>whnf
 repeat (refine SeqP.go ?_; conv=>whnf)
 refine ⟨_,cellAt_row a4 rfl,?_⟩
 conv=>whnf
 refine ⟨_,cellAt_row a4 rfl,?_⟩
 conv=>whnf
 repeat (refine SeqP.go ?_; conv=>whnf)
 exact ⟨⟨a,rfl,hb4⟩,(g02.trans g3).trans g4⟩
theorem Joined_spec (n:Nat) (P:List (Int×Int)) (hP:NetOk n P) (hl:P.length≤9) (k:Nat) (hk:k < P.length) (v:Value) (h0 h:Hp) (hv:GB h0 h v P) :
  CallP E 51 [int n,v,int k] h (fun r h'=>(∃ a,r = .tuple ⟨[int (joinN n P k:Nat),.slice a (P.length - 1) (P.length - 1),int 0]⟩∧GB h h' (.slice a (P.length - 1) (P.length - 1)) (joinL P k))∧Grows h h'):=by
 have hpv:=hv.pairs
 obtain ⟨av,cap,rfl⟩:=oneGB hv
 refine enter51 (by simp) ?_
 conv=>whnf
 repeat (refine SeqP.go ?_; conv=>whnf)
 refine CallP.mono (withEdge_spec n P hP hl k hk _ h hpv) ?_
 rintro r H1 ⟨rfl,g1⟩
 conv=>whnf
 refine ⟨rfl,_,storeAt_full (vs:=[int n,.slice av P.length cap]) (Hp.at_lay_self _ _) rfl rfl rfl,?_⟩
 generalize hH2:(H1.lay (.row 83 true [int 0,.slice none 0 0])).set H1.next (.row 83 true [int n,.slice av P.length cap]) = H2
 have a2:H2.at H1.next = some (.row 83 true [int n,.slice av P.length cap]):=by rw [← hH2]; exact Hp.at_set_self _ (Hp.lt_of_at (Hp.at_lay_self _ _))
 have g2:Grows H1 H2:=by rw [← hH2]; exact (Grows.lay _ _).then_set _ (Nat.le_refl _)
 conv=>whnf
 repeat (refine SeqP.go ?_; conv=>whnf)
 refine cmpF (by omega) ?_
 conv=>whnf
 repeat (refine SeqP.go ?_; conv=>whnf)
 refine ⟨_,cellsAt_row a2 (by simp),?_⟩
 conv=>whnf
 refine CallP.mono (joined_spec n P hP hl k hk _ h0 H2 (hv.ext (g1.trans g2))) ?_
 rintro r H3 ⟨⟨a,rfl,hb3⟩,g3⟩
 conv=>whnf
 refine ⟨rfl,_,storeAt_full (vs:=[int (joinN n P k:Nat),.slice a (P.length - 1) (P.length - 1)]) (Hp.at_lay_self _ _) rfl rfl rfl,?_⟩
 generalize hH4:(H3.lay (.row 83 true [int 0,.slice none 0 0])).set H3.next (.row 83 true [int (joinN n P k:Nat),.slice a (P.length - 1) (P.length - 1)]) = H4
 have a4:H4.at H3.next = some (.row 83 true [int (joinN n P k:Nat),.slice a (P.length - 1) (P.length - 1)]):=by rw [← hH4]; exact Hp.at_set_self _ (Hp.lt_of_at (Hp.at_lay_self _ _))
 have g4:Grows H3 H4:=by rw [← hH4]; exact (Grows.lay _ _).then_set _ (Nat.le_refl _)
 have g02:=g1.trans g2
 have hb4:GB h H4 (.slice a (P.length - 1) (P.length - 1)) (joinL P k):=by
  have hb:=hb3.ext g4
  unfold GB at hb ⊢
  exact hb.back g02.next
 conv=>whnf
 repeat (refine SeqP.go ?_; conv=>whnf)
 refine ⟨_,cellAt_row a4 rfl,?_⟩
 conv=>whnf
 refine ⟨_,cellAt_row a4 rfl,?_⟩
 conv=>whnf
 repeat (refine SeqP.go ?_; conv=>whnf)
 exact ⟨⟨a,rfl,hb4⟩,(g02.trans g3).trans g4⟩
end
end Go.Proofs.Ythgjnkdealdmoaa
namespace Go.Proofs.Ythgjnkdealdmoaa
open Go.Rx Go.RowKit
def fl (n:Nat) (c:Nat→Int):List Int:=(List.range n).map c
theorem fl_len (n:Nat) (c:Nat→Int):(fl n c).length = n:=by simp [fl]
theorem fl_get {n:Nat} {c:Nat→Int} {i:Nat} (h:i < (fl n c).length):(fl n c)[i] = c i:=by simp [fl]
theorem fl_succ (n:Nat) (c:Nat→Int):fl (n + 1) c = fl n c ++ [c n]:=by unfold fl; rw [List.range_succ,List.map_append]; rfl
theorem fl_congr {n:Nat} {c d:Nat→Int} (h:∀ i,i < n→c i = d i):fl n c = fl n d:=List.map_congr_left fun i hi=>h i (List.mem_range.1 hi)
theorem fl_set {n:Nat} {c:Nat→Int} {i:Nat} {x:Int}:(fl n c).set i x = fl n (fun j=>if j = i then x else c j):=by
 apply List.ext_getElem
 ·simp [fl]
 ·intro j h1 h2
  rw [List.getElem_set]
  simp only [fl,List.getElem_map,List.getElem_range]
  by_cases e:i = j
  ·rw [if_pos e,if_pos e.symm]
  ·rw [if_neg e,if_neg (fun x=>e x.symm)]
theorem fl_take {n m:Nat} {c:Nat→Int} (h:m≤n):(fl n c).take m = fl m c:=by
 unfold fl
 rw [← List.map_take,List.take_range,Nat.min_eq_left h]
def tl (c:Nat→Int):Nat→Nat
 | 0=>0
 | m + 1=>if c m = 0 then tl c m else m + 1
theorem tl_le (c:Nat→Int):∀ m,tl c m≤m
 | 0=>Nat.le_refl _
 | m + 1=>by
  have:=tl_le c m
  unfold tl
  split <;> omega
theorem tl_pad {c:Nat→Int} {n:Nat} (h:∀ i,n≤i→c i = 0):∀ d,tl c (n + d) = tl c n
 | 0=>rfl
 | d + 1=>by
  show (if c (n + d) = 0 then tl c (n + d) else n + d + 1) = _
  rw [if_pos (h _ (by omega)),tl_pad h d]
def sg (p:Nat→Nat) (o:Nat→Bool):Nat→Nat→Int
 | 0=>fun _=>0
 | k + 1=>fun i=>if i = p k then (if o k = true then sg p o k i - 1 else sg p o k i + 1) else sg p o k i
def sgN (p:Nat→Nat):Nat→Nat
 | 0=>0
 | k + 1=>max (sgN p k) (p k + 1)
theorem sg_out {p:Nat→Nat} {o:Nat→Bool}:∀ k i,sgN p k≤i→sg p o k i = 0
 | 0,_,_=>rfl
 | k + 1,i,h=>by
  have h:max (sgN p k) (p k + 1)≤i:=h
  show (if i = p k then _ else sg p o k i) = 0
  rw [if_neg (by omega)]
  exact sg_out k i (by omega)
theorem sg_bd {p:Nat→Nat} {o:Nat→Bool}:∀ (k:Nat) (i:Nat),-(k:Int)≤sg p o k i∧sg p o k i≤k
 | 0,_=>⟨by show -((0:Nat):Int)≤0; omega,by show (0:Int)≤((0:Nat):Int); omega⟩
 | k + 1,i=>by
  have:=sg_bd (p:=p) (o:=o) k i
  show -((k + 1:Nat):Int)≤(if i = p k then _ else sg p o k i)∧(if i = p k then _ else sg p o k i)≤((k + 1:Nat):Int)
  split
  ·split <;> omega
  ·omega
theorem sgN_le {p:Nat→Nat} {m:Nat}:∀ k,(∀ d,d < k→p d + 1≤m)→sgN p k≤m
 | 0,_=>Nat.zero_le _
 | k + 1,h=>by
  have:=sgN_le k fun d hd=>h d (by omega)
  have:=h k (by omega)
  show max _ _≤m
  omega
def WR (e:TypeId) (h0 h:Hp) (v:Value) (l:List Int):Prop :=
 (v = .slice none 0 0∧l = [])∨∃ r c x cs,v = slc r 0 l.length c∧l.length≤c∧c≤cs.length∧h0.next≤r∧h.at r = some (.row e x cs)∧∀ i,(hi:i < l.length)→cs[i]? = some (int l[i])
theorem WR.ints {e:TypeId} {h0 h:Hp} {v:Value} {l:List Int} (k:WR e h0 h v l):Ints h v l:=by
 rcases k with ⟨rfl,rfl⟩ | ⟨r,c,x,cs,rfl,h1,h2,h4,h5,h6⟩
 ·exact ⟨none,0,rfl,fun k hk=>by simp at hk⟩
 ·exact ⟨_,c,rfl,fun k hk=>⟨r,0,none,rfl,rfl,cellAt_row h5 (by rw [Nat.add_zero]; exact h6 k hk)⟩⟩
theorem WR.ext {e:TypeId} {h0 h h':Hp} {v:Value} {l:List Int} (k:WR e h0 h v l) (g:Grows h h'):WR e h0 h' v l:=by
 rcases k with k | ⟨r,c,x,cs,h0,h1,h2,h4,h5,h6⟩
 ·exact .inl k
 ·exact .inr ⟨r,c,x,cs,h0,h1,h2,h4,g.at_ _ _ h5,h6⟩
theorem WR.back {e:TypeId} {h1 h0 h:Hp} {v:Value} {l:List Int} (g:h1.next≤h0.next) (k:WR e h0 h v l):WR e h1 h v l:=by
 rcases k with k | ⟨r,c,x,cs,k0,k1,k2,k4,k5,k6⟩
 ·exact .inl k
 ·exact .inr ⟨r,c,x,cs,k0,k1,k2,Nat.le_trans g k4,k5,k6⟩
theorem WR.known {e:TypeId} {h0 h:Hp} {v:Value} {l:List Int} (k:WR e h0 h v l):∃ a c,v = .slice a l.length c:=by
 obtain ⟨a,c,e,-⟩:=k.ints
 exact ⟨a,c,e⟩
theorem WR.set {e:TypeId} {h0 h:Hp} {v:Value} {l:List Int} (k:WR e h0 h v l) {i:Nat} (hi:i < l.length) (x:Int):∃ r c H',v = slc r 0 l.length c∧h0.next≤r∧storeAt h r (offAt 0 (i:Int).toNat 1) [int x] = some H'∧H'.next = h.next∧(∀ j o,j≠r→h.at j = some o→H'.at j = some o)∧WR e h0 H' v (l.set i x):=by
 rcases k with ⟨rfl,rfl⟩ | ⟨r,c,b,cs,rfl,h1,h2,h4,h5,h6⟩
 ·simp at hi
 ·refine ⟨r,c,h.set r (.row e b (cs.set i (int x))),rfl,h4,?_,Hp.next_set _ _ _,fun j o hj e=>by rw [Hp.at_set_ne _ hj]; exact e,?_⟩
  ·rw [offAt_eq,show 0 + (i:Int).toNat * 1 = i by omega]
   exact storeAt_row h5 (by omega) rfl
  ·refine .inr ⟨r,c,b,_,by rw [List.length_set],by rw [List.length_set]; exact h1,by rw [List.length_set]; exact h2,h4,Hp.at_set_self _ (Hp.lt_of_at h5),fun j hj=>?_⟩
   rw [List.length_set] at hj
   rw [List.getElem?_set]
   by_cases eij:i = j
   ·subst eij
    rw [if_pos rfl,if_pos (by omega),List.getElem_set_self]
   ·rw [if_neg eij,h6 j hj,List.getElem_set_ne eij]
theorem WR.of {b H:Hp} {e:TypeId} {v:Value} {l:List Int} (k:Built b H e v l):WR e b H v l:=by
 rcases k with ⟨rfl,rfl⟩ | ⟨r,rfl,hr,x,hx⟩
 ·exact .inl ⟨rfl,rfl⟩
 ·exact .inr ⟨r,l.length,x,_,rfl,Nat.le_refl _,by rw [List.length_map]; exact Nat.le_refl _,hr,hx,fun i hi=>by rw [List.getElem?_map,List.getElem?_eq_getElem hi]; rfl⟩
theorem WR.cut {e:TypeId} {h0 h:Hp} {v:Value} {l:List Int} (k:WR e h0 h v l) {j:Nat} (hj:j≤l.length) (hl:0 < l.length):∃ v',hcutS h 1 v none (some (int (j:Int))) none = .val v' h∧WR e h0 h v' (l.take j):=by
 rcases k with ⟨rfl,rfl⟩ | ⟨r,c,b,cs,rfl,h1,h2,h4,h5,h6⟩
 ·simp at hl
 ·have htl:(l.take j).length = j:=by rw [List.length_take]; omega
  refine ⟨slc r 0 j c,?_,.inr ⟨r,c,b,cs,by rw [htl],by omega,h2,h4,h5,fun i hi=>?_⟩⟩
  ·have shape:hcutS h 1 (slc r 0 l.length c) none (some (int (j:Int))) none = hcutObj h 1 r 0 true (some (0,j,c)) (h.at r):=by
    unfold hcutS
    dsimp only [slc]
    rw [bounds_of (len:=l.length) (i:=0) (j:=j) ⟨.inl ⟨rfl,rfl⟩,.inr rfl⟩ (Nat.zero_le _) hj h1]
    rfl
   rw [shape,h5]
   unfold hcutObj
   cases b with
   | true =>
    unfold cutExact cutTo
    dsimp only
    cases hbeq:Nat.beq c 0 with
    | true=>exact absurd (Nat.eq_of_beq_eq_true hbeq) (by omega)
    | false =>
     show HRes.val (slc r (0 + 0 * 1) (j - 0) (c - 0)) h = _
     simp
   | false =>
    unfold cutOf cutOpen
    dsimp only
    rw [show Nat.ble (Nat.succ 0) c = true from by rw [Nat.ble_eq]; omega]
    show HRes.val (slc r (0 + 0 * 1) (j - 0) (c - 0)) h = _
    simp
  ·rw [htl] at hi
   rw [h6 i (by omega),List.getElem_take]
end Go.Proofs.Ythgjnkdealdmoaa
namespace Go.Proofs.Ythgjnkdealdmoaa
open Go.Rx Go.RowKit
structure RS (h0 H:Hp) (C:Nat) (v:Value) (l:List Int):Prop where
 next:h0.next + 1≤H.next
 at_:∀ r o,r≠C→h0.at r = some o→H.at r = some o
 cell:H.at C = some (.row 32 true [v])
 built:Built (bare (h0.next + 1)) H 2 v l
theorem RS.ext {h0 H H2:Hp} {C:Nat} {v:Value} {l:List Int} (k:RS h0 H C v l) (g:Grows H H2):RS h0 H2 C v l :=
 ⟨Nat.le_trans k.next g.next,fun r o hr e=>g.at_ _ _ (k.at_ r o hr e),g.at_ _ _ k.cell,k.built.ext g⟩
theorem built_kb {b H H2:Hp} {e:TypeId} {v:Value} {l:List Int} (k:Built b H e v l) (g:∀ r o,b.next≤r→H.at r = some o→H2.at r = some o):Built b H2 e v l:=by
 rcases k with k | ⟨r,e,hr,x,hx⟩
 ·exact .inl k
 ·exact .inr ⟨r,e,hr,x,g r _ hr hx⟩
theorem RS.keep {h0 H H2:Hp} {C:Nat} {v:Value} {l:List Int} (k:RS h0 H C v l) (hC:C < h0.next) (kp:Keeps h0.next H H2):RS h0 H2 C v l :=
 ⟨by rw [kp.next]; exact k.next,fun r o h1 e=>kp.at_ _ _ (by have:=Hp.lt_of_at e; omega) (k.at_ r o h1 e),kp.at_ _ _ (by omega) k.cell,built_kb k.built fun r o hr e=>kp.at_ _ _ (by have:h0.next + 1≤r:=hr; omega) e⟩
theorem RS.grows {h h0 H:Hp} {C:Nat} {v:Value} {l:List Int} (k:RS h0 H C v l) (g:Grows h h0) (hC:h.next≤C):Grows h H :=
 ⟨by have:=g.next; have:=k.next; omega,fun r o e=>k.at_ r o (by have:=Hp.lt_of_at e; omega) (g.at_ _ _ e)⟩
theorem built_off {b H:Hp} {e:TypeId} {v:Value} {l:List Int} (k:Built b H e v l) {r:Nat} (hr:r < b.next):∀ n c,v≠slc r 0 n c:=by
 intro n c e
 subst e
 have hlt:=Built.ad_lt k r (ad_slc _ _ _ _)
 omega
theorem RS.mv {h0 H H2:Hp} {C:Nat} {v v':Value} {l l':List Int} (k:RS h0 H C v l) (hC:C < h0.next) (hb:Built (bare (h0.next + 1)) H2 2 v' l') (hn:h0.next + 1≤H2.next) (keep:∀ r o,r < h0.next + 1→H.at r = some o→H2.at r = some o) :
  H2.at C = some (.row 32 true [v])∧RS h0 (H2.set C (.row 32 true [v'])) C v' l':=by
 have hc:=keep C _ (by omega) k.cell
 refine ⟨hc,⟨by rw [Hp.next_set]; exact hn,fun r o h1 e=>?_,Hp.at_set_self _ (Hp.lt_of_at hc),?_⟩⟩
 ·rw [Hp.at_set_ne _ h1]
  exact keep r o (by have:=Hp.lt_of_at e; omega) (k.at_ r o h1 e)
 ·exact built_kb hb fun r o hr e=>by rw [Hp.at_set_ne _ (by have:h0.next + 1≤r:=hr; omega)]; exact e
theorem Built.setI {b H:Hp} {v:Value} {l:List Int} (k:Built b H 2 v l) {i:Nat} (hi:i < l.length) (x:Int):∃ r H',v = slc r 0 l.length l.length∧b.next≤r∧cellAt H r (offAt 0 (i:Int).toNat 1) = some (int l[i])∧storeAt H r (offAt 0 (i:Int).toNat 1) [int x] = some H'∧H'.next = H.next∧(∀ j o,j≠r→H.at j = some o→H'.at j = some o)∧Built b H' 2 v (l.set i x):=by
 rcases k with ⟨rfl,rfl⟩ | ⟨r,rfl,hr,y,hx⟩
 ·simp at hi
 ·refine ⟨r,H.set r (.row 2 y ((l.set i x).map int)),rfl,hr,?_,?_,Hp.next_set _ _ _,fun j o hj e=>by rw [Hp.at_set_ne _ hj]; exact e,.inr ⟨r,by rw [List.length_set],hr,y,Hp.at_set_self _ (Hp.lt_of_at hx)⟩⟩
  ·rw [offAt_eq,show 0 + (i:Int).toNat * 1 = i by omega]
   exact cellAt_row hx (by rw [List.getElem?_map,List.getElem?_eq_getElem hi]; rfl)
  ·rw [offAt_eq,show 0 + (i:Int).toNat * 1 = i by omega,storeAt_row hx (by rw [List.length_map]; exact hi) rfl,List.map_set]
/-! The rank is below the number of nodes. -/
def pres (p:List Int):Nat→Bool:=fun w=>decide ((w:Int) ∈ p)
theorem at0_mem {p:List Int} {x:Int} (h0:0≤x) (h1:x < p.length):at0 p x ∈ p:=by
 have:=at0_get h0 h1
 exact List.mem_of_getElem? this
theorem rk_pres {n:Nat} {P:List (Int×Int)} (hP:NetOk n P) (set:Nat):∀ k,k≤P.length→(∀ z ∈ (rk n P set k).1,0≤z∧z < n)∧(rk n P set k).2 + cntX n (pres (rk n P set k).1)≤n
 | 0,_=>by
  have hc:=cntX_le n (pres (rk n P set 0).1)
  refine ⟨fun z hz=>?_,by show 0 + _≤n; omega⟩
  have hz:z ∈ idK n n:=hz
  unfold idK at hz
  obtain ⟨j,hj,rfl⟩:=List.mem_map.1 hz
  have:=List.mem_range.1 hj
  rw [if_pos this]
  omega
 | k + 1,hk=>by
  obtain ⟨h1,h2⟩:=rk_pres hP set k (by omega)
  have hl:=rk_len n P set k
  have he:=hP.ok _ (List.getElem_mem (show k < P.length by omega))
  have ee:edg P k = P[k]'(by omega):=edg_get (by omega)
  show (∀ z ∈ (rkStep _ _ (rk n P set k)).1,_)∧(rkStep _ _ (rk n P set k)).2 + cntX n (pres (rkStep _ _ (rk n P set k)).1)≤n
  generalize rk n P set k = s at h1 h2 hl
  unfold rkStep
  split
  ·rename_i hj
   have m1:=at0_mem (p:=s.1) (x:=(edg P k).1) (by rw [ee]; omega) (by rw [hl,ee]; omega)
   have m2:=at0_mem (p:=s.1) (x:=(edg P k).2) (by rw [ee]; omega) (by rw [hl,ee]; omega)
   have hne:=hj.2
   generalize at0 s.1 (edg P k).1 = a at m1 hne
   generalize at0 s.1 (edg P k).2 = b at m2 hne
   have sub:∀ z ∈ relab s.1 b a,z ∈ s.1∧z≠b:=by
    intro z hz
    unfold relab re1 at hz
    obtain ⟨y,hy,rfl⟩:=List.mem_map.1 hz
    split
    ·exact ⟨m1,hne⟩
    ·rename_i hyb; exact ⟨hy,hyb⟩
   refine ⟨fun z hz=>h1 z (sub z hz).1,?_⟩
   have hb:=h1 b m2
   have hlt:=cntX_lt (X:=pres (relab s.1 b a)) (Y:=pres s.1) (fun w hw=>by
    unfold pres at hw ⊢
    exact decide_eq_true (sub _ (of_decide_eq_true hw)).1) (v:=b.toNat) (by
    unfold pres
    rw [Int.toNat_of_nonneg hb.1]
    exact decide_eq_false fun hm=>(sub _ hm).2 rfl) (by
    unfold pres
    rw [Int.toNat_of_nonneg hb.1]
    exact decide_eq_true m2) n (by omega)
   show s.2 + 1 + cntX n (pres (relab s.1 b a))≤n
   omega
  ·exact ⟨h1,h2⟩
theorem rkN_lt {n:Nat} {P:List (Int×Int)} (hP:NetOk n P) (set:Nat):rkN P set + 1≤n:=by
 have e:rkN P set = (rk n P set P.length).2:=(rk_same hP set P.length (Nat.le_refl _)).2.symm
 obtain ⟨h1,h2⟩:=rk_pres hP set P.length (Nat.le_refl _)
 have hl:=rk_len n P set P.length
 have hn:=hP.n1
 rw [e]
 generalize rk n P set P.length = s at h1 h2 hl
 have m:=at0_mem (p:=s.1) (x:=0) (by omega) (by omega)
 have hb:=h1 _ m
 have hlt:=cntX_lt (X:=fun _=>false) (Y:=pres s.1) (by simp) (v:=(at0 s.1 0).toNat) rfl (by
  unfold pres
  rw [Int.toNat_of_nonneg hb.1]
  exact decide_eq_true m) n (by omega)
 omega
attribute [local irreducible] E idxN cellAt cellsAt storeAt callable helems hmoved lookIn findKey keyOk hentries Hp.at Hp.set Hp.lay arBits hupdated setAt CallP YieldP BoolOf IsWrap Rnd LoopP AppP CutP Int.tmod Int.tdiv Int.fdiv
section
variable [Unknowns]
attribute [local irreducible] ResP sameAt flat
theorem reaching_spec (N n at_:Nat) (hn:n≤100) (ha:at_≤100) (c:Nat→Int) (hc:∀ i,n≤i→c i = 0) (v:Value) (h:Hp) (hb:Built (bare N) h 2 v (fl n c)) (hN:N≤h.next) :
  CallP E 102 [v,int at_] h (fun r h'=>Built (bare N) h' 2 r (fl (max n (at_ + 1)) c)∧N≤h'.next∧∀ r o,r < N→h.at r = some o→h'.at r = some o):=by
 refine enter102 (by simp) ?_
 conv=>whnf
 refine SeqP.go ?_
 conv=>whnf
 refine SeqP.cut (α:=Value×Hp) (fun s=>[(0,s.1)]) (fun s H=>H = s.2∧Built (bare N) s.2 2 s.1 (fl (max n (at_ + 1)) c)∧N≤s.2.next∧∀ r o,r < N→h.at r = some o→s.2.at r = some o) ?_ ?_
 ·conv=>whnf
  refine loop_inv (α:=Nat×Value×Hp) (fun s=>[(0,s.2.1),(1,int at_)]) (fun s=>s.2.2) (fun s=>n≤s.1∧s.1≤max n (at_ + 1)∧Built (bare N) s.2.2 2 s.2.1 (fl s.1 c)∧N≤s.2.2.next∧∀ r o,r < N→h.at r = some o→s.2.2.at r = some o) (fun s=>max n (at_ + 1) - s.1) (n,v,h) ⟨Nat.le_refl _,by omega,hb,hN,fun _ _ _ e=>e⟩ ⟨rfl,rfl,trivial⟩ (Hp.Le.refl _) ?_
  rintro ⟨m,w,H⟩ φ ⟨hm1,hm2,hbw,hNw,hk⟩
  dsimp only at hm1 hm2 hbw hNw hk ⊢
  have hl:=fl_len m c
  have hi:=hbw.ints
  obtain ⟨aw,cw,rfl,-⟩:=hi
  conv=>whnf
  refine SeqP.go ?_
  conv=>whnf
  refine SeqP.go ?_
  conv=>whnf
  refine cmpB (fun c1=>?_) (fun c1=>?_)
  rotate_left
  ·have:max n (at_ + 1) = m:=by omega
   conv=>whnf
   exact ⟨(_,H),⟨rfl,trivial⟩,⟨rfl,by rw [this]; exact hbw,hNw,hk⟩,rfl⟩
  have hfs:=fl_succ m c
  rw [hc m hm1] at hfs
  conv=>whnf
  refine SeqP.go ?_
  conv=>whnf
  refine AppP.ints (hbw.ext (Grows.lay _ _)) (bare_grows (Nat.le_trans hNw (Grows.lay H (.row 2 true [int 0])).next)) Elems.lay1 (by simp; omega) ?_
  intro v' h5 hb5 hg5 keep5
  rw [← hfs] at hb5
  conv=>whnf
  exact Rnd.mk (m + 1,v',h5) ⟨by show n≤m + 1; omega,by show m + 1≤max n (at_ + 1); omega,hb5,hg5.next,fun r o hr e=>keep5 r o (Hp.at_lay_old _ (hk r o hr e)) (built_off hbw hr)⟩ (by show max n (at_ + 1) - (m + 1) < max n (at_ + 1) - m; omega) ⟨rfl,rfl,trivial⟩ (Hp.Le.refl _) rfl
 rintro ⟨w,_⟩ φ H ⟨rfl,hbw,hNw,hk⟩
 dsimp only at hbw hNw hk ⊢
 rcases id hbw with ⟨rfl,e⟩ | ⟨rr,rfl,hrr,xx,hat⟩
 ·conv=>whnf
  repeat (refine SeqP.go ?_; conv=>whnf)
  exact ⟨hbw,hNw,hk⟩
 ·conv=>whnf
  repeat (refine SeqP.go ?_; conv=>whnf)
  exact ⟨hbw,hNw,hk⟩
theorem noughts_spec (h0:Hp) (n:Nat) (hn:n≤100) (c:Nat→Int) (v:Value) (h:Hp) (hv:WR 2 h0 h v (fl n c)) :
  CallP E 103 [v] h (fun r h'=>WR 2 h0 h r (fl (tl c n) c)∧h' = h):=by
 refine enter103 (by simp) ?_
 conv=>whnf
 refine SeqP.go ?_
 conv=>whnf
 refine SeqP.cut (α:=Value) (fun s=>[(0,s)]) (fun s H=>H = h∧WR 2 h0 h s (fl (tl c n) c)) ?_ ?_
 ·conv=>whnf
  refine loop_inv (α:=Nat×Value) (fun s=>[(0,s.2)]) (fun _=>h) (fun s=>s.1≤n∧tl c s.1 = tl c n∧WR 2 h0 h s.2 (fl s.1 c)) (fun s=>s.1) (n,v) ⟨Nat.le_refl _,rfl,hv⟩ ⟨rfl,trivial⟩ (Hp.Le.refl _) ?_
  rintro ⟨m,w⟩ φ ⟨hm,ht,hw⟩
  dsimp only at hm ht hw ⊢
  have hl:=fl_len m c
  have hi:=hw.ints
  obtain ⟨aw,cw,rfl,hcell⟩:=hi
  conv=>whnf
  refine SeqP.go ?_
  conv=>whnf
  refine SeqP.go ?_
  conv=>whnf
  refine cmpB (fun c1=>?_) (fun c1=>?_)
  rotate_left
  ·have e0:m = 0:=by omega
   subst e0
   conv=>whnf
   exact ⟨_,⟨rfl,trivial⟩,⟨rfl,by rw [← ht]; exact hw⟩,rfl⟩
  have hm1:m - 1 < (fl m c).length:=by omega
  obtain ⟨r,o,sp,rfl,hsp,p0⟩:=hcell (m - 1) hm1
  rw [fl_get] at p0
  have p1:cellAt h r (offAt o ((m - 1:Nat):Int).toNat 1) = some (int (c (m - 1))):=by rw [offAt_eq,show o + ((m - 1:Nat):Int).toNat * 1 = m - 1 + o by omega]; exact p0
  conv=>whnf
  refine ⟨((m - 1:Nat):Int),wie (by omega) (by omega),?_⟩
  conv=>whnf
  refine ⟨hsp,⟨by omega,by omega⟩,?_⟩
  conv=>whnf
  refine ⟨_,p1,?_⟩
  have htm:tl c m = if c (m - 1) = 0 then tl c (m - 1) else m:=by
   obtain ⟨q,rfl⟩:∃ q,m = q + 1:=⟨m - 1,by omega⟩
   rfl
  conv=>whnf
  refine cmpB (fun c2=>?_) (fun c2=>?_)
  rotate_left
  ·rw [if_neg c2] at htm
   conv=>whnf
   exact ⟨_,⟨rfl,trivial⟩,⟨rfl,by rw [← ht,htm]; exact hw⟩,rfl⟩
  rw [if_pos c2] at htm
  have hcut:=hw.cut (j:=m - 1) (by omega) (by omega)
  obtain ⟨v',e1,hw'⟩:=hcut
  rw [fl_take (by omega)] at hw'
  conv=>whnf
  refine ⟨((m - 1:Nat):Int),wie (by omega) (by omega),?_⟩
  conv=>whnf
  refine CutP.val e1 ?_
  conv=>whnf
  exact Rnd.mk (m - 1,v') ⟨by show m - 1≤n; omega,by rw [← ht,htm],hw'⟩ (by show m - 1 < m; omega) ⟨rfl,trivial⟩ (Hp.Le.refl _) rfl
 rintro w φ h ⟨rfl,hw⟩
 have hk:=hw.known
 obtain ⟨aw,cw,rfl⟩:=hk
 conv=>whnf
 repeat (refine SeqP.go ?_; conv=>whnf)
 exact ⟨hw,rfl⟩
end
end Go.Proofs.Ythgjnkdealdmoaa
