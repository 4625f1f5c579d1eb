/- Contracts by what is to be shown of each step: a part of the engine. -/
import Derived.Test.YtljbibjnidccbabWx19
set_option linter.unusedVariables false
set_option linter.unusedSectionVars false
set_option linter.unusedSimpArgs false
namespace Go.Rx
open Go.RowKit Go.ChangeShapes
noncomputable section

/-! Plain arguments read as trees. -/

theorem AllOk.append {W:World}:∀ {a b:List Value} {s t:List Tr},AllOk W a s→AllOk W b t→AllOk W (a ++ b) (s ++ t)
 | [],_,[],_,_,k=>k
 | _ :: _,_,_ :: _,_,⟨x,y⟩,k=>⟨x,y.append k⟩
 | [],_,_ :: _,_,h,_=>h.elim
 | _ :: _,_,[],_,h,_=>h.elim

theorem tiles_le {P:Program}:∀ {l:List (Nat×TypeId)} {o m:Nat},plainTy.tiles P o l m = true→o≤m∧∀ s ∈ l,o≤s.1∧s.1 + P.cellsOf s.2≤m
 | [],o,m,h=>⟨Nat.le_of_eq (Nat.eq_of_beq_eq_true h),fun s hs=>by simp at hs⟩
 | (k,t) :: l,o,m,h=>by
  unfold plainTy.tiles at h
  rw [Bool.and_eq_true] at h
  obtain ⟨h1,h2⟩:=tiles_le h.2
  have e:=Nat.eq_of_beq_eq_true h.1
  refine ⟨by omega,fun s hs=>?_⟩
  rcases List.mem_cons.1 hs with rfl | hs
  ·dsimp only; omega
  ·have:=h2 s hs; omega

theorem seg_join {P:Program} {W:World} {cs:List Value}:∀ (l:List (Nat×TypeId)) (o m:Nat),plainTy.tiles P o l m = true→m = cs.length →
  (∀ s ∈ l,∃ ts,AllOk W ((cs.drop s.1).take (P.cellsOf s.2)) ts∧TyT P s.2 ts)→∃ ts,AllOk W (cs.drop o) ts∧∀ s ∈ l,TyT P s.2 ((ts.drop (s.1 - o)).take (P.cellsOf s.2))
 | [],o,m,h,hm,_=>by
  have e:o = m:=Nat.eq_of_beq_eq_true h
  refine ⟨[],?_,fun s hs=>by simp at hs⟩
  rw [List.drop_eq_nil_of_le (by omega)]
  trivial
 | (k,t) :: l,o,m,h,hm,ih=>by
  have hle:=tiles_le h
  unfold plainTy.tiles at h
  rw [Bool.and_eq_true] at h
  have e:o = k:=Nat.eq_of_beq_eq_true h.1
  subst e
  obtain ⟨t1,a1,b1⟩:=ih (o,t) (by simp)
  obtain ⟨t2,a2,b2⟩:=seg_join l (o + P.cellsOf t) m h.2 hm (fun s hs=>ih s (by simp [hs]))
  dsimp only at a1 b1
  have hsz:o + P.cellsOf t≤m:=(hle.2 (o,t) (by simp)).2
  have l1:t1.length = P.cellsOf t:=by
   have:=a1.get.1
   rw [List.length_take,List.length_drop] at this
   omega
  refine ⟨t1 ++ t2,?_,fun s hs=>?_⟩
  ·have:=a1.append a2
   rw [← List.drop_drop,List.take_append_drop] at this
   exact this
  ·rcases List.mem_cons.1 hs with rfl | hs
   ·dsimp only
    rw [Nat.sub_self,List.drop_zero,List.take_append_of_le_length (by omega),List.take_of_length_le (by omega)]
    exact b1
   ·have h3:=((tiles_le h.2).2 s hs).1
    have:=b2 s hs
    rw [List.drop_append,List.drop_eq_nil_of_le (by omega),List.nil_append,l1,show s.1 - o - P.cellsOf t = s.1 - (o + P.cellsOf t) by omega]
    exact this

theorem tiles_range {P:Program} {e:TypeId} (n:Nat):plainTy.tiles P 0 ((List.range n).map fun i=>(i * P.cellsOf e,e)) (n * P.cellsOf e) = true:=by
 have key:∀ k j,k + j = n→plainTy.tiles P (j * P.cellsOf e) ((List.range' j k).map fun i=>(i * P.cellsOf e,e)) (n * P.cellsOf e) = true:=by
  intro k
  induction k with
  | zero => intro j hj; have : j = n := by omega
            subst this; show Nat.beq _ _ = true; exact Nat.beq_refl _
  | succ k ih =>
   intro j hj
   rw [List.range'_succ,List.map_cons]
   unfold plainTy.tiles
   rw [Bool.and_eq_true]
   refine ⟨Nat.beq_refl _,?_⟩
   have:=ih (j + 1) (by omega)
   rw [Nat.add_mul,Nat.one_mul] at this
   exact this
 have:=key n 0 (by omega)
 rw [Nat.zero_mul] at this
 rw [List.range_eq_range']
 exact this

theorem trees_of_trod {H:Type} {enc:TypeId×Value→H} {P:Program} {W:World} {L:List TypeId} (hL:plainTys P L = true) {sp:Nat→Bool} {base:Nat} {hd:Bool}:∀ (fuel:Nat) (t:TypeId),t ∈ L→∀ (cs:List Value) x,DataW.trod enc P W base sp hd fuel t cs = some x→∃ ts,AllOk W cs ts∧TyT P t ts
 | 0,t,_,cs,x,h=>by simp [DataW.trod] at h
 | fuel + 1,t,ht,cs,x,h=>by
  have hp:=List.all_eq_true.1 hL t ht
  unfold plainTy at hp
  split at hp
  ·rename_i hu
   obtain ⟨b,rfl,-⟩:=DataW.trod_bool hu h
   exact ⟨[.bit b],⟨.bit b,trivial⟩,.bit b hu⟩
  ·rename_i hu
   obtain ⟨n,rfl,-,w⟩:=DataW.trod_int hu h
   exact ⟨[.num n],⟨.num n,trivial⟩,.num hu w⟩
  ·rename_i hu
   obtain ⟨s,rfl,-,w⟩:=DataW.trod_string hu h
   exact ⟨[.str s],⟨.str s,trivial⟩,.str s hu w⟩
  ·rename_i e hu
   rw [Bool.and_eq_true] at hp
   have he:e ∈ L:=List.contains_iff_mem.1 hp.1
   have hz:0 < P.cellsOf e:=Nat.le_of_ble_eq_true hp.2
   rcases DataW.trod_slice hu h with ⟨rfl,-⟩ | ⟨a,len,cap,elems,rest,m,hfu,rfl,-,hb,hl,hm,hlen,hel,-,-⟩
   ·exact ⟨[.sl 0 []],⟨.nil,trivial⟩,.sl hu (Nat.zero_le _) (by simp) (fun i hi=>by omega)⟩
   by_cases hn:len = 0
   ·subst hn
    exact ⟨[.sl 0 []],⟨.void a cap,trivial⟩,.sl hu (Nat.zero_le _) (by simp) (fun i hi=>by omega)⟩
   have hfu:fuel = m:=by omega
   subst hfu
   have each:∀ i,i < len→∃ ci y,W.cells? base (a.add (i * P.cellsOf e)) (P.cellsOf e) = some ci∧DataW.trod enc P W base sp hd fuel e ci = some y:=by
    intro i hi
    have h1:=hel i hi
    rw [List.getElem?_eq_getElem (by omega),Option.bind_eq_some_iff] at h1
    obtain ⟨ci,q1,q2⟩:=h1
    exact ⟨ci,_,q1,q2⟩
   have hspot:a.spot = none∧a.block < W.heap.size:=by
    obtain ⟨ci,y,q1,-⟩:=each 0 (by omega)
    rw [Nat.zero_mul,show a.add 0 = a from rfl] at q1
    have h3:=(World.cells?_some q1).2.2 0 hz
    rw [show a.add 0 = a from rfl] at h3
    have hl0:=(World.cells?_some q1).2.1
    rw [List.getElem?_eq_getElem (by omega)] at h3
    unfold World.cell? at h3
    cases hb:W.heap[a.block]? with
    | none=>rw [hb] at h3; cases h3
    | some ob =>
     rw [hb] at h3
     refine ⟨?_,(Array.getElem?_eq_some_iff.1 hb).1⟩
     cases ob with
     | cells c _ _ =>
      dsimp only at h3
      cases hs:a.spot with
      | none=>rfl
      | some _=>rw [hs] at h3; simp at h3
     | _=>cases h3
   obtain ⟨b,o,s⟩:=a
   dsimp only at hspot
   obtain ⟨rfl,hblk⟩:=hspot
   have addr2:∀ k j,Addr.add (Addr.add ⟨b,o,none⟩ k) j = ⟨b,o + (k + j),none⟩:=by
    intro k j; unfold Addr.add; split <;> split <;> simp_all <;> omega
   let sz:=P.cellsOf e
   let cell:Nat→Value:=fun k=>(W.cell? ⟨b,o + k,none⟩).getD undef
   have hcell:∀ k,k < len * sz→W.cell? ⟨b,o + k,none⟩ = some (cell k):=by
    intro k hk
    have hi:k / sz < len:=Nat.div_lt_of_lt_mul (by rw [Nat.mul_comm]; exact hk)
    have hj:k % sz < sz:=Nat.mod_lt _ hz
    obtain ⟨ci,y,q1,-⟩:=each (k / sz) hi
    have h3:=(World.cells?_some q1).2.2 (k % sz) hj
    have hl0:=(World.cells?_some q1).2.1
    rw [addr2,show k / sz * P.cellsOf e + k % sz = k by
     have:=Nat.div_add_mod k sz
     have e1:sz * (k / sz) = k / sz * P.cellsOf e:=Nat.mul_comm _ _
     omega] at h3
    show _ = some ((W.cell? ⟨b,o + k,none⟩).getD undef)
    rw [h3,List.getElem?_eq_getElem (by omega)]
    rfl
   let vs:List Value:=(List.range (len * sz)).map cell
   have hvl:vs.length = len * sz:=by simp [vs]
   have hvg:∀ k,k < len * sz→vs[k]? = some (cell k):=by intro k hk; simp [vs,hk]
   have hch:∀ i,i < len→∃ ts,AllOk W ((vs.drop (i * sz)).take sz) ts∧TyT P e ts:=by
    intro i hi
    obtain ⟨ci,y,q1,q2⟩:=each i hi
    have hl0:=(World.cells?_some q1).2.1
    have hb2:i * sz + sz≤len * sz:=by
     have:(i + 1) * sz≤len * sz:=Nat.mul_le_mul_right _ hi
     rw [Nat.add_mul,Nat.one_mul] at this
     exact this
    have hci:(vs.drop (i * sz)).take sz = ci:=by
     apply List.ext_getElem?
     intro k
     by_cases hk:k < sz
     ·rw [List.getElem?_take_of_lt hk,List.getElem?_drop,hvg _ (by omega)]
      have h3:=(World.cells?_some q1).2.2 k hk
      rw [addr2] at h3
      rw [← h3]
      exact (hcell _ (by omega)).symm
     ·rw [List.getElem?_eq_none (by rw [List.length_take]; omega),List.getElem?_eq_none (by have:P.cellsOf e = sz:=rfl; omega)]
    rw [hci]
    exact trees_of_trod hL fuel e he ci y q2
   obtain ⟨ts,a1,a2⟩:=seg_join (P:=P) (W:=W) (cs:=vs) ((List.range len).map fun i=>(i * P.cellsOf e,e)) 0 (len * P.cellsOf e) (tiles_range len) hvl.symm (by
    intro s hs
    obtain ⟨i,hi,rfl⟩:=List.mem_map.1 hs
    exact hch i (List.mem_range.1 hi))
   rw [List.drop_zero] at a1
   have hg:=a1.get
   refine ⟨[.sl len ts],⟨.row b o len cap vs ts hblk hl hg.1 ?_ hg.2,trivial⟩,.sl hu (by omega) (by rw [← hg.1]; exact hvl) ?_⟩
   ·intro k v hk
    have hk':k < len * sz:=by rw [← hvl]; exact (List.getElem?_eq_some_iff.1 hk).1
    rw [hvg k hk'] at hk
    cases hk
    exact hcell k hk'
   ·intro i hi
    have:=a2 (i * P.cellsOf e,e) (List.mem_map.2 ⟨i,List.mem_range.2 hi,rfl⟩)
    exact this
  ·rename_i n e hu
   rw [Bool.and_eq_true,Bool.and_eq_true] at hp
   have he:e ∈ L:=List.contains_iff_mem.1 hp.1.1
   have hct:P.cellsOf t = n * P.cellsOf e:=Nat.eq_of_beq_eq_true hp.2
   obtain ⟨xs,m,hfu,-,hcl,hxl,hx⟩:=DataW.trod_array hu h
   have hfu:fuel = m:=by omega
   subst hfu
   obtain ⟨ts,a1,a2⟩:=seg_join (P:=P) (W:=W) (cs:=cs) ((List.range n).map fun i=>(i * P.cellsOf e,e)) 0 (n * P.cellsOf e) (tiles_range n) (by rw [hcl,hct]) (by
    intro s hs
    obtain ⟨i,hi,rfl⟩:=List.mem_map.1 hs
    have h1:=hx i (List.mem_range.1 hi)
    rw [List.getElem?_eq_getElem (by have:=List.mem_range.1 hi; omega)] at h1
    exact trees_of_trod hL fuel e he _ _ h1)
   rw [List.drop_zero] at a1
   refine ⟨ts,a1,.arr hu (by rw [← a1.get.1]; exact hcl) fun i hi=>?_⟩
   exact a2 (i * P.cellsOf e,e) (List.mem_map.2 ⟨i,List.mem_range.2 hi,rfl⟩)
  ·rename_i fs hu
   rw [Bool.and_eq_true] at hp
   obtain ⟨xs,m,hfu,-,hcl,hxl,hx⟩:=DataW.trod_struct hu h
   have hfu:fuel = m:=by omega
   subst hfu
   have hin:∀ (i:Nat) (f:Field),fs[i]? = some f→f.type ∈ L:=by
    intro i f hf
    have:=List.all_eq_true.1 hp.1 f (List.mem_of_getElem? (by simpa using hf))
    exact List.contains_iff_mem.1 this
   obtain ⟨ts,a1,a2⟩:=seg_join (P:=P) (W:=W) (cs:=cs) (fs.toList.map fun f=>(f.offset,f.type)) 0 (P.cellsOf t) hp.2 hcl.symm (by
    intro s hs
    obtain ⟨f,hf,rfl⟩:=List.mem_map.1 hs
    obtain ⟨i,hi⟩:=List.mem_iff_getElem?.1 hf
    have h1:=hx i f (by simpa using hi)
    have hi2:i < fs.toList.length:=(List.getElem?_eq_some_iff.1 hi).1
    rw [Array.length_toList] at hi2
    rw [List.getElem?_eq_getElem (by omega)] at h1
    exact trees_of_trod hL fuel f.type (hin i f (by simpa using hi)) _ _ h1)
   rw [List.drop_zero] at a1
   refine ⟨ts,a1,.struct hu (by rw [← a1.get.1]; exact hcl) fun i f hf=>?_⟩
   exact a2 (f.offset,f.type) (List.mem_map.2 ⟨f,List.mem_of_getElem? (by simpa using hf),rfl⟩)
  ·cases hp

theorem tree_of_trod {H:Type} {enc:TypeId×Value→H} {P:Program} {W:World} {L:List TypeId} (hL:plainTys P L = true) {sp:Nat→Bool} {base:Nat} {hd:Bool} {t:TypeId} (ht:t ∈ L) {v:Value} {d:DataW H} {p:List MemPlace} (hv:v.cells.toList = [v])
  (h0:DataW.Trod enc P W base sp hd t v d p):∃ tr,TOk W v tr∧TyT P t [tr]:=by
 obtain ⟨fuel,hf⟩:=h0
 obtain ⟨ts,a,b⟩:=trees_of_trod hL fuel t ht _ _ hf
 rw [hv] at a
 match ts,a with
 | [tr],⟨a,_⟩=>exact ⟨tr,a,b⟩
 | [],a=>exact a.elim
 | _ :: _ :: _,⟨_,a⟩=>exact a.elim
theorem agg_of_trod {H:Type} {enc:TypeId×Value→H} {P:Program} {W:World} {L:List TypeId} (hL:plainTys P L = true) {sp:Nat→Bool} {base:Nat} {hd:Bool} {t:TypeId} (ht:t ∈ L) {cs:List Value} {d:DataW H} {p:List MemPlace}
  (h0:DataW.Trod enc P W base sp hd t (.agg ⟨cs⟩) d p):∃ ts,TOk W (.agg ⟨cs⟩) (.ag ts)∧TyT P t ts:=by
 obtain ⟨fuel,hf⟩:=h0
 obtain ⟨ts,a,b⟩:=trees_of_trod hL fuel t ht _ _ hf
 exact ⟨ts,.ag cs ts a.get.1 a.get.2,b⟩
end
end Go.Rx
