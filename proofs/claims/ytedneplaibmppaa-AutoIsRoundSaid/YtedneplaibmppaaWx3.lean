/- Contracts by what is to be shown of each step: a part of the engine. -/
import Derived.Test.YtedneplaibmppaaWx2
set_option linter.unusedVariables false
set_option linter.unusedSectionVars false
set_option linter.unusedSimpArgs false
namespace Go.Rx

section
variable {E:Env} {H:Heap} {h:Hp} {ρ:T Value} {φ:Frame}

theorem Fits.val {v:Value} (a:HR H h):Fits (.val v H) (.val v h):=⟨H,rfl,a⟩

theorem qw (a:HR H h) {x y:Option Value} (e:∀ v,y = some v→x = some v):Fits (lF H x) (hval h y):=by
 cases y with
 | none=>trivial
 | some v=>rw [e v rfl]; exact ⟨H,rfl,a⟩

theorem zS {x:Option Heap} {y:Option Hp} (e:∀ h',y = some h'→∃ H',x = some H'∧HR H' h'):Fits (qD x) (hmem y):=by
 cases y with
 | none=>trivial
 | some h' =>
  obtain ⟨H',e1,e2⟩:=e h' rfl
  rw [e1]; exact ⟨H',rfl,e2⟩

theorem oP {β:Type} (n:Nat) (g:Nat→β):gU n g = g n:=by cases n <;> rfl

theorem nW (a:HR H h) {f:Nat→Value} {ob:gP} {o:Obj} (ho:lq ob o):Fits (laid f H ob) (.val (f h.next) (h.lay o)):=by
 unfold laid
 have k:∀ {β:Type} (n:Nat) (g:Nat→β),gU n g = g n:=fun n g=>by cases n <;> rfl
 rw [k]
 exact ⟨_,by rw [a.next],a.lay ho⟩

theorem Nz {v:Value} {k:Nat→Nat→dL} {k':Nat→Nat→fV} (e:∀ r o,Fits (k r o) (k' r o)):Fits (Em v k) (DK v k'):=by
 unfold DK
 split
 ·exact e _ _
 ·trivial

theorem NA (a:HR H h) {t:TypeId} {r o:Nat} {v:Value} (e:hload E h t r o = some v):loadVar E H t r o = some v:=by
 unfold hload at e
 unfold loadVar
 cases hi:E.ty t with
 | none=>rw [hi] at e; cases e
 | some i =>
  rw [hi] at e
  dsimp only at e ⊢
  unfold zO at e
  unfold Pg
  cases hagg:i.agg with
  | true =>
   rw [hagg] at e
   dsimp only at e ⊢
   cases hc:bM h r o i.size with
   | none=>rw [hc] at e; cases e
   | some l=>rw [hc] at e; rw [a.load hc]; exact e
  | false =>
   rw [hagg] at e
   dsimp only at e ⊢
   rw [a.load (Nr e)]
   rfl

theorem TM (a:HR H h) {t:TypeId} {r o:Nat} {v:Value} {h':Hp} (e:Lc E h t r o v = some h'):∃ H',storeVar E H t r o v = some H'∧HR H' h':=by
 unfold Lc at e
 unfold storeVar
 split at e
 ·rename_i i hi
  rw [hi]
  dsimp only
  cases hc:cellsOf v with
  | none=>rw [hc] at e; cases e
  | some vs =>
   rw [hc] at e
   dsimp only at e
   split at e
   ·rename_i hl
    obtain ⟨H',e1,e2⟩:=a.store e
    refine ⟨H',?_,e2⟩
    unfold Kv
    dsimp only
    rw [show Nat.beq vs.length i.size = true from by rw [hl]; exact Nat.beq_refl _]
    exact e1
   ·cases e
 ·cases e

theorem vZ (a:HR H h) {r:Nat} {x:List Entry×Nat} (e:bT h r = some x):entriesOf (H.objs.get r) = some x:=by
 unfold bT at e
 split at e
 ·rename_i es c hr
  obtain ⟨ob,h1,h2⟩:=a.at_ r _ hr
  cases ob <;> simp only [lq] at h2
  obtain ⟨rfl,rfl⟩:=h2
  rw [h1]; exact e
 ·cases e

theorem JW (a:HR H h) {m:Value} {x:List Entry×Nat} (e:Bc h m = some x):mapOf H m = some x:=by
 unfold Bc at e
 split at e
 ·exact e
 ·exact vZ a e
 ·cases e

theorem NC (kt et:TypeId) (k:Value) (ok:Bool):dP E kt et k ok none = none:=by
 unfold dP; split <;> rfl

theorem Qb (a:HR H h) {t:TypeId} {m k:Value} {ok:Bool} {v:Value} (e:vX E h t m k ok = some v):zx E H t m k ok = some v:=by
 unfold vX at e
 unfold zx
 cases hi:E.ty t with
 | none=>rw [hi] at e; cases e
 | some i =>
  rw [hi] at e
  dsimp only at e ⊢
  split at e
  ·rename_i kt et hd
   rw [hd]
   dsimp only
   cases hm:Bc h m with
   | none=>rw [hm,NC] at e; cases e
   | some x=>rw [hm] at e; rw [JW a hm]; exact e
  ·cases e

theorem Lh (a:HR H h) {kt:TypeId} {r:Nat} {k v:Value} {h':Hp} (e:uD E h kt r k v (bT h r) = some h'):∃ H',BJ E H kt r k v (entriesOf (H.objs.get r)) = some H'∧HR H' h':=by
 unfold uD at e
 unfold BJ
 split at e
 ·cases e
 ·rename_i hk
  split at e
  ·cases e
  ·rename_i es c hes
   rw [vZ a hes,hk]
   dsimp only
   unfold dw at e
   unfold updated
   split at e
   ·cases e
   ·rename_i hf
    rw [hf]
    dsimp only
    split at e
    ·rename_i hs
     cases e
     rw [hs]
     exact ⟨_,rfl,a.set r (ob:=.map _ _) ⟨rfl,rfl⟩⟩
    ·cases e
   ·rename_i hf
    rw [hf]
    cases e
    exact ⟨_,rfl,a.set r (ob:=.map _ _) ⟨rfl,rfl⟩⟩

theorem He (a:HR H h) {t:TypeId} {m k v:Value} {h':Hp} (e:rV E h t m k v = some h'):∃ H',vD E H t m k v = some H'∧HR H' h':=by
 unfold rV at e
 unfold vD
 split at e
 ·cases e
 ·rename_i i hi
  rw [hi]
  dsimp only
  split at e
  ·rename_i hd
   rw [hd]
   dsimp only
   split at e
   ·exact Lh a e
   ·cases e
  ·cases e

theorem ND (a:HR H h) (kt et:TypeId) (r:Nat) (k:Value):Fits (Fa E H kt et r k (entriesOf (H.objs.get r))) (G8 E h kt et r k (bT h r)):=by
 unfold G8 Fa
 cases hk:eD E kt k with
 | false=>trivial
 | true =>
  dsimp only
  cases hes:bT h r with
  | none=>trivial
  | some x =>
   obtain ⟨es,c⟩:=x
   rw [vZ a hes]
   dsimp only
   cases hei:E.ty et with
   | none=>trivial
   | some ei =>
    dsimp only
    unfold Nw entered
    cases hf:findKey E.prog kt k es 0 with
    | none=>trivial
    | some y =>
     cases y with
     | none =>
      dsimp only
      cases ei.zero with
      | none=>trivial
      | some z=>exact ⟨_,rfl,a.set r (ob:=.map _ _) ⟨rfl,rfl⟩⟩
     | some z =>
      obtain ⟨i,k',v,b⟩:=z
      dsimp only
      cases Instr.sameBits 10000 k' k with
      | true=>exact ⟨_,rfl,a.set r (ob:=.map _ _) ⟨rfl,rfl⟩⟩
      | false=>trivial

theorem TN (a:HR H h) (t:TypeId) (m k:Value):Fits (FW E H t m k) (P9 E h t m k):=by
 unfold P9 FW
 cases hi:E.ty t with
 | none=>trivial
 | some i =>
  dsimp only
  cases i.desc with
  | map kt et =>
   dsimp only
   cases m with
   | map r =>
    cases r with
    | none=>trivial
    | some r=>exact ND a kt et r k
   | _=>trivial
  | _=>trivial

theorem Hf (a:HR H h) {m s v:Value} {h':Hp} (e:yx h m s v = some h'):∃ H',rG H m s v = some H'∧HR H' h':=by
 unfold yx at e
 split at e
 ·rename_i r
  unfold Cy at e
  cases hes:bT h r with
  | none=>rw [hes] at e; cases e
  | some x =>
   obtain ⟨es,c⟩:=x
   rw [hes] at e
   show ∃ H',rF H r s v (entriesOf (H.objs.get r)) = some H'∧_
   rw [vZ a hes]
   unfold rF
   dsimp only at e ⊢
   split at e
   ·unfold Ny at e
    dsimp only
    split at e
    ·rename_i hb
     cases e
     rw [hb]
     exact ⟨_,rfl,a.set r (ob:=.map _ _) ⟨rfl,rfl⟩⟩
    ·cases e
   ·cases e
 ·cases e

theorem zT (a:HR H h) {size n:Nat} {v:Value} {l:List Value} (e:dz h size n v = some l):elems H size n v = some l:=by
 unfold dz at e
 split at e
 ·rename_i r o sp l' c'
  show rH H r o (Nat.mul n size) sp = _
  split at e
  ·split at e
   ·rename_i hz
    cases e
    unfold rH
    rw [show Nat.mul n size = 0 from hz]
    rfl
   ·cases e
  ·rename_i hne
   unfold rH
   split
   ·exact absurd rfl hne
   ·exact a.load e
 ·exact e
 ·exact e
 ·cases e

theorem TP (a:HR H h) {base:Option Addr} {e sc size:Nat} {h':Hp} (k:dI h base e sc size = some h'):∃ H',moved H base e sc size = some H'∧HR H' h':=by
 unfold dI at k
 unfold moved
 split at k
 ·cases k; exact ⟨H,rfl,a⟩
 ·rename_i r o
  dsimp only
  split at k
  ·rename_i e' x cs hr
   obtain ⟨ob,h1,h2⟩:=a.at_ r _ hr
   cases ob <;> simp only [lq] at h2
   rename_i e'' n x' cells
   obtain ⟨q1,q2,q3,q4⟩:=h2
   subst q1 q2
   rw [h1]
   unfold BK
   split at k
   ·cases k; exact ⟨H,rfl,a⟩
   ·split at k
    ·rename_i hc
     cases k
     refine ⟨H.set r .dead,?_,a.set r trivial⟩
     dsimp only
     rw [show (Nat.beq e e'' && Nat.ble (Nat.add o (Nat.mul sc size)) n) = true from by
      rw [Bool.and_eq_true]
      exact ⟨by rw [hc.1]; exact Nat.beq_refl _,by rw [Nat.ble_eq,← q3]; exact hc.2⟩]
    ·cases k
  ·cases k
 ·cases k; exact ⟨H,rfl,a⟩

theorem VW (a:HR H h) {ei:TI} {base:Option Addr} {sl sc l:Nat} {new:List Value}:Fits (vF H ei base sl sc l new) (hfits h ei base sl sc l new):=by
 unfold hfits vF
 cases base with
 | none =>
  dsimp only
  cases new with
  | nil=>exact ⟨H,rfl,a⟩
  | cons=>trivial
 | some b =>
  obtain ⟨r,o,s⟩:=b
  dsimp only
  cases hs:storeAt h r (o + sl * ei.size) new with
  | none=>trivial
  | some h' =>
   obtain ⟨H',e1,e2⟩:=a.store hs
   rw [show Nat.add o (Nat.mul sl ei.size) = o + sl * ei.size from rfl,e1]
   exact ⟨H',rfl,e2⟩

theorem TQ (a:HR H h) {e:TypeId} {ei:TI} {base:Option Addr} {sc n l:Nat} {new:List Value} {x y:Option (List Value)} (hxy:∀ l,y = some l→x = some l):Fits (rJ H e ei base sc n l new x) (Lf h e ei base sc n l new y):=by
 unfold Lf
 cases y with
 | none=>trivial
 | some old =>
  rw [hxy _ rfl]
  unfold rJ
  dsimp only
  cases nO ei n l new && Nat.ble 1 ei.size with
  | false=>trivial
  | true =>
   dsimp only
   unfold pO grown
   cases hm:dI h base e sc ei.size with
   | none=>trivial
   | some h' =>
    obtain ⟨H',e1,e2⟩:=TP a hm
    rw [e1]
    exact nW (f:=fun r=>slc r 0 l l) e2 (lq.rowOf _ _ _)

theorem Li (a:HR H h) {e:TypeId} {ei:TI} {base:Option Addr} {sl sc n:Nat} {x y:Option (List Value)} (hxy:∀ l,y = some l→x = some l):Fits (BL H e ei base sl sc n x) (zP h e ei base sl sc n y):=by
 unfold zP
 cases y with
 | none=>trivial
 | some new =>
  rw [hxy _ rfl]
  unfold BL
  dsimp only
  rw [oP]
  have hadd:Nat.add sl n = sl + n:=rfl
  rw [hadd]
  by_cases hle:sl + n≤sc
  ·rw [if_pos hle,show Nat.ble (sl + n) sc = true from by rw [Nat.ble_eq]; exact hle]
   exact VW a
  ·rw [if_neg hle,show Nat.ble (sl + n) sc = false from by rw [← Bool.not_eq_true,Nat.ble_eq]; exact hle]
   exact TQ a fun l hl=>zT a hl

theorem Hg (a:HR H h) (s x:Value) (xt:TypeId) (se:Option (TypeId×TI)):Fits (vH E H s x xt se) (rW E h s x xt se):=by
 unfold rW vH
 cases se with
 | none=>trivial
 | some q =>
  obtain ⟨e,ei⟩:=q
  dsimp only
  cases E.ty xt with
  | none=>trivial
  | some xi =>
   dsimp only
   cases nP xi.desc with
   | true=>trivial
   | false =>
    dsimp only
    cases lenOf x with
    | none=>trivial
    | some n =>
     dsimp only
     cases s with
     | slice base sl sc =>
      dsimp only
      cases jO base with
      | true=>trivial
      | false=>exact Li a fun l hl=>zT a hl
     | _=>trivial

theorem Qc (a:HR H h) (ts:List TypeId) (as:List Value):Fits (Fb E H ts as) (Fz E h ts as):=by
 unfold Fz
 split
 ·split
  ·exact Hg a _ _ _ _
  ·trivial
 ·trivial

theorem Lj (a:HR H h) {base:Option Addr} {n:Nat} {x y:Option (List Value)} (hxy:∀ l,y = some l→x = some l):Fits (BM H base n x) (zQ h base n y):=by
 unfold zQ
 cases y with
 | none=>trivial
 | some new =>
  rw [hxy _ rfl]
  unfold BM
  dsimp only
  cases base with
  | none=>exact ⟨H,rfl,a⟩
  | some b =>
   obtain ⟨r,o,sp⟩:=b
   dsimp only
   cases fT sp with
   | true=>trivial
   | false =>
    dsimp only
    cases hs:storeAt h r o new with
    | none=>trivial
    | some h' =>
     obtain ⟨H',e1,e2⟩:=a.store hs
     rw [e1]
     exact ⟨H',rfl,e2⟩

theorem Ll (a:HR H h) (s x:Value) (se:Option (TypeId×TI)):Fits (BN H s x se) (zR h s x se):=by
 unfold zR BN
 cases se with
 | none=>trivial
 | some q =>
  obtain ⟨e,ei⟩:=q
  dsimp only
  cases s with
  | slice base dl c =>
   dsimp only
   cases lenOf x with
   | none=>trivial
   | some sl =>
    dsimp only
    rw [oP]
    exact Lj a fun l hl=>zT a hl
  | _=>trivial

theorem VX (a:HR H h) (ts:List TypeId) (as:List Value):Fits (Rt E H ts as) (hcopy E h ts as):=by
 unfold hcopy
 split
 ·split
  ·exact Ll a _ _ _
  ·trivial
 ·trivial

theorem TR {x:Value} {i:TI} (hne:∀ k e,i.desc≠.map k e) (H:Heap):xu E H x i = xu E D0 x i:=by
 unfold xu
 split <;> first | rfl | (rename_i k e hd; exact absurd hd (hne _ _))

theorem YE (a:HR H h) {ts:List TypeId} {as:List Value} {v:Value} (e:hlen E h ts as = some v):Yn E H ts as = some v:=by
 unfold hlen at e
 unfold Yn
 split at e
 ·dsimp only
  split at e
  ·dsimp only
   split at e
   ·cases e
   ·rename_i i hi
    rw [hi]
    dsimp only
    unfold Bd at e
    split at e
    ·rename_i k el hd
     unfold xu
     rw [hd]
     dsimp only
     cases hm:Bc h _ with
     | none=>rw [hm] at e; cases e
     | some y=>rw [hm] at e; rw [JW a hm]; exact e
    ·rename_i hne
     rw [TR (fun k el hd=>hne _ _ hd)]
     exact e
  ·cases e
 ·cases e

theorem TS (a:HR H h) {x:Value} {i:TI} {v:Value} (e:Qa h x i = some v):FZ H x i = some v:=by
 unfold Qa at e
 split at e
 ·rename_i hd
  split at e
  ·unfold FZ; rw [hd]; exact e
  ·rename_i r o l n
   unfold FZ
   rw [hd]
   show capOf n (H.objs.get r) = some v
   unfold VU at e
   split at e
   ·rename_i hr
    obtain ⟨ob,h1,h2⟩:=a.at_ _ _ hr
    cases ob <;> simp only [lq] at h2
    obtain ⟨q1,q2,q3,q4⟩:=h2
    subst q2
    rw [h1]
    exact e
   ·cases e
  ·unfold FZ; rw [hd]; exact e
  ·cases e
 ·cases e

theorem YF (a:HR H h) {ts:List TypeId} {as:List Value} {v:Value} (e:hcap E h ts as = some v):Yo E H ts as = some v:=by
 cases ts with
 | nil=>cases e
 | cons t ts =>
  cases as with
  | nil=>cases e
  | cons x as =>
   unfold hcap at e
   unfold Yo
   dsimp only at e ⊢
   cases hi:E.ty t with
   | none=>rw [hi] at e; cases e
   | some i=>rw [hi] at e; exact TS a e

theorem NG (a:HR H h) (b:Builtin) (ts:Array TypeId) (type:TypeId) (as:List Value):Fits (tT E H b ts type as) (uE E h b ts type as):=by
 cases b <;> simp only [uE,tT] <;> first | trivial | skip
 ·exact Qc a _ _
 ·exact qw a fun v e=>YF a e
 ·exact VX a _ _
 ·exact qw a fun v e=>YE a e
 ·exact eB a (F:=fun H=>mU H as _) fun H=>GZ _ _ _
 ·exact eB a (F:=fun H=>mU H as _) fun H=>GZ _ _ _

theorem TU (a:HR H h) {v:Value} {lo hi mx:Option Value} {i:TI}:Fits (fE E H v lo hi mx i) (G9 E h v lo hi mx i):=by
 have hcl:∀ (size r o:Nat) (b:Option (Nat×Nat×Nat)) (H:Heap),mq H size r o b = retag (mq D0 size r o b) H:=fun size r o b H=>by cases b <;> rfl
 have hce:∀ (size r o:Nat) (b:Option (Nat×Nat×Nat)) (H:Heap),kH H size r o b = retag (kH D0 size r o b) H:=fun size r o b H=>by cases b <;> rfl
 have hco:∀ (size r o:Nat) (b:Option (Nat×Nat×Nat)) (H:Heap),oq H size r o b = retag (oq D0 size r o b) H:=fun size r o b H=>by
  cases b with
  | none=>rfl
  | some b =>
   obtain ⟨l,hh,m⟩:=b
   unfold oq
   dsimp only
   cases Nat.ble (Nat.succ l) m with
   | true=>rfl
   | false =>
    unfold xA
    dsimp only
    cases Nat.beq (Nat.sub hh l) 0 && Nat.beq (Nat.sub m l) 0 <;> rfl
 have abl:∀ (size r o:Nat) (nm:Bool) (b:Option (Nat×Nat×Nat)) (H:Heap),nJ H size r o nm b = retag (nJ D0 size r o nm b) H:=fun size r o nm b H=>by
  cases nm
  ·exact hcl _ _ _ _ _
  ·exact hco _ _ _ _ _
 have hcn:∀ (b:Option (Nat×Nat×Nat)) (H:Heap),xB H b = retag (xB D0 b) H:=fun b H=>by cases b <;> rfl
 have hcv:∀ (nm:Bool) (b:Option (Nat×Nat×Nat)) (H:Heap),rO H nm b = retag (rO D0 nm b) H:=fun nm b H=>by cases nm <;> cases b <;> rfl
 have hcs:∀ (s:ByteArray) (m:Option Value) (b:Option (Nat×Nat×Nat)) (H:Heap),nQ H s m b = retag (nQ D0 s m b) H:=fun s m b H=>by
  unfold nQ
  cases m with
  | some _=>rfl
  | none=>cases b <;> rfl
 have gen:(∀ H,fE E H v lo hi mx i = retag (fE E D0 v lo hi mx i) H)→Fits (fE E H v lo hi mx i) (lift (fE E D0 v lo hi mx i) h):=fun e=>eB a (F:=fun H=>fE E H v lo hi mx i) e
 unfold G9
 cases hd:i.desc with
 | slice elem =>
  dsimp only
  cases he:E.ty elem with
  | none=>trivial
  | some ei =>
   dsimp only
   cases v with
   | slice b len cap =>
    cases b with
    | none =>
     refine gen fun H=>?_
     unfold fE; rw [hd]; dsimp only; rw [he]; exact hcn _ _
    | some b =>
     obtain ⟨r,o,sp⟩:=b
     cases sp with
     | none =>
      dsimp only
      unfold fE; rw [hd]; dsimp only; rw [he]; dsimp only
      unfold rX
      cases hr:h.at r with
      | none=>trivial
      | some ob =>
       obtain ⟨o2,h1,h2⟩:=a.at_ r _ hr
       rw [h1]
       unfold F6
       cases ob <;> dsimp only <;> first | trivial | skip
       ·cases o2 <;> simp only [lq] at h2
        obtain ⟨q1,q2,q3,q4⟩:=h2
        subst q2
        rename_i x _ _ _ _
        dsimp only
        split
        ·exact eB a (F:=fun H=>kH H ei.size r o _) fun H=>hce _ _ _ _ _
        ·exact eB a (F:=fun H=>nJ H ei.size r o _ _) fun H=>abl _ _ _ _ _ _
       ·cases o2 <;> simp only [lq] at h2
        exact eB a (F:=fun H=>nJ H ei.size r o _ _) fun H=>abl _ _ _ _ _ _
     | some sp =>
      refine gen fun H=>?_
      unfold fE; rw [hd]; dsimp only; rw [he]; dsimp only
      split
      ·rename_i hx; cases hx
      ·rename_i hx; cases hx
      ·exact hcl _ _ _ _ _
      ·exact hcv _ _ _
      ·rfl
   | _ =>
    refine gen fun H=>?_
    unfold fE; rw [hd]; dsimp only; rw [he]; rfl
 | string =>
  refine gen fun H=>?_
  unfold fE; rw [hd]; dsimp only
  cases v with
  | string s=>exact hcs _ _ _ _
  | _=>rfl
 | array n elem =>
  refine gen fun H=>?_
  unfold fE; rw [hd]; dsimp only
  cases E.ty elem with
  | none=>rfl
  | some ei =>
   dsimp only
   split
   ·exact hcl _ _ _ _ _
   ·rfl
 | _ =>
  refine gen fun H=>?_
  unfold fE; rw [hd]; rfl

theorem VY (a:HR H h) {t:TypeId} {len:Nat} {ps:List (Nat×Value)}:Fits (ji (ku len ps (dJ E t)) H) (ZG h len (zN E t len ps)):=by
 unfold zN ku
 cases dJ E t with
 | none=>trivial
 | some q =>
  obtain ⟨e,ei⟩:=q
  dsimp only
  cases zeroCells ei with
  | none=>trivial
  | some z =>
   dsimp only
   unfold xw
   cases Nat.ble (Nat.mul len ei.size) 10000 && Nat.beq z.length ei.size with
   | false=>trivial
   | true =>
    dsimp only
    unfold Kz
    cases fill (iI ei.size) (times z len) ps with
    | none=>trivial
    | some cells=>exact nW (f:=fun r=>slc r 0 len len) a (lq.rowOf _ _ _)

theorem VZ (a:HR H h) {l c:Option Nat} {se:Option (TypeId×TI)}:Fits (ji (mo l c se) H) (ZH h (vY l c se)):=by
 unfold vY mo
 cases se with
 | none=>trivial
 | some q =>
  obtain ⟨e,ei⟩:=q
  dsimp only
  cases zeroCells ei with
  | none=>trivial
  | some z =>
   dsimp only
   cases l with
   | none=>trivial
   | some l =>
    dsimp only
    cases c with
    | none=>trivial
    | some c =>
     dsimp only
     unfold AL
     cases Nat.ble l c && Nat.ble (Nat.mul ei.bytes c) 1073741824 && Nat.beq z.length ei.size with
     | false=>trivial
     | true=>exact nW (f:=fun r=>slc r 0 l c) a (lq.rowOf _ _ _)

theorem Qd (a:HR H h) {x:New} (hx:∀ y,x = some y→y = (bK,.map [] 0)):Fits (ji x H) (RN x h):=by
 cases x with
 | none=>trivial
 | some y=>rw [hx y rfl]; exact nW (f:=bK) a ⟨rfl,rfl⟩

theorem TV (a:HR H h) {i:Option TI} {v:Value}:Fits (ji (zF i v) H) (hrange h i v):=by
 unfold hrange zF
 cases i with
 | none=>trivial
 | some i =>
  dsimp only
  cases i.desc <;> dsimp only <;> first | trivial | skip
  cases v <;> dsimp only <;> first | trivial | skip
  exact nW (f:=xk) a ⟨rfl,rfl⟩

theorem Qe (a:HR H h) {r:Nat} {s:ByteArray} {pos:Nat}:Fits (F8 H r (some (.iter s pos))) (if pos < s.size then Lg h r s pos (Utf8.decode s pos) else .val (.tuple #[.bool false]) h):=by
 unfold F8
 dsimp only
 by_cases hlt:pos < s.size
 ·rw [if_pos hlt,show Nat.ble (Nat.succ pos) s.size = true from by rw [Nat.ble_eq]; exact hlt]
  dsimp only
  unfold lG Lg
  cases hp:Utf8.decode s pos with
  | mk c w =>
   dsimp only
   rw [oP,oP]
   exact ⟨_,rfl,a.set r (ob:=.iter _ _) ⟨rfl,rfl⟩⟩
 ·rw [if_neg hlt,show Nat.ble (Nat.succ pos) s.size = false from by rw [← Bool.not_eq_true,Nat.ble_eq]; exact hlt]
  exact ⟨_,rfl,a⟩

theorem V3 (a:HR H h) {b:Bool} {v:Value}:Fits (KF H b v) (hnext h b v):=by
 unfold hnext
 cases b with
 | false=>trivial
 | true =>
  dsimp only
  split
  ·rename_i r
   show Fits (F8 H r (H.objs.get r)) _
   cases hr:h.at r with
   | none=>trivial
   | some ob =>
    obtain ⟨o2,h1,h2⟩:=a.at_ r _ hr
    cases ob <;> dsimp only <;> first | trivial | skip
    cases o2 <;> simp only [lq] at h2
    obtain ⟨rfl,rfl⟩:=h2
    rw [h1]
    exact Qe a
  ·trivial

theorem NH (a:HR H h) {src dst:TypeId} {v:Value}:Fits (converted E H src dst v) (oO E h src dst v):=by
 unfold oO converted
 cases dQ 1 v with
 | true=>exact qw a fun v e=>e
 | false =>
  dsimp only
  unfold qP zC
  cases v with
  | slice b len cap =>
   cases b with
   | none=>trivial
   | some b =>
    obtain ⟨r,o,sp⟩:=b
    dsimp only
    cases isBytes E src && isStr E dst with
    | false=>trivial
    | true =>
     dsimp only
     cases hb:dz h 1 len (.slice (some ⟨r,o,sp⟩) len len) with
     | none=>trivial
     | some l =>
      have hl:=zT a hb
      have hl':rH H r o (Nat.mul len 1) sp = some l:=hl
      rw [show Nat.mul len 1 = len from Nat.mul_one len] at hl'
      rw [hl']
      unfold textOf
      cases BU (some l) with
      | none=>trivial
      | some bs=>exact ⟨_,rfl,a⟩
  | _=>trivial

theorem V4 (hf:FR ρ φ) (a:HR H h) (op:Op) (type:TypeId):Fits (aop op E ρ H type) (fP E op type φ h):=by
 cases op with
 | move x=>exact ⟨H,by show dL.val (Rx.eval ρ x) H = _; rw [hf.eval],a⟩
 | assign x=>exact ⟨H,by show dL.val (Rx.eval ρ x) H = _; rw [hf.eval],a⟩
 | pick c x y =>
  show Fits (picked ρ H x y (Rx.eval ρ c)) _
  rw [hf.eval]
  show Fits _ (match bI φ c with | .bool true=>.val (bI φ x) h | .bool false=>.val (bI φ y) h | _=>.fail)
  cases bI φ c with
  | bool b =>
   cases b
   ·exact ⟨H,by rw [← hf.eval]; rfl,a⟩
   ·exact ⟨H,by rw [← hf.eval]; rfl,a⟩
  | _=>trivial
 | alloc t =>
  show Fits (ji (allocated t (zeroOf (E.ty t))) H) (Nv h t (Cw E t))
  unfold Cw allocated
  cases zeroOf (E.ty t) with
  | none=>trivial
  | some z =>
   dsimp only
   cases cellsOf z with
   | none=>trivial
   | some cells=>exact nW (f:=xk) a (lq.rowOf _ _ _)
 | box t x =>
  show Fits (ji (boxed t (cellsOf (Rx.eval ρ x))) H) (Nv h t (cellsOf (bI φ x)))
  rw [hf.eval]
  cases cellsOf (bI φ x) with
  | none=>trivial
  | some cells=>exact nW (f:=xk) a (lq.rowOf _ _ _)
 | build t ps =>
  show Fits (match E.ty t with | some i=>pJ E H (Rx.fU ρ ps.toList) i | none=>.fail) (hbuild E h t (Cu φ ps.toList))
  rw [hf.fU]
  unfold hbuild
  cases E.ty t with
  | none=>trivial
  | some i=>exact eB a (F:=fun H=>pJ E H _ i) fun H=>P8 _ _ _
 | buildSlice t len ps =>
  show Fits (ji (ku len (Rx.fU ρ ps.toList) (dJ E t)) H) _
  rw [hf.fU]
  exact VY a
 | insert t m k x =>
  show Fits (qD (vD E H t (Rx.eval ρ m) (Rx.eval ρ k) (Rx.eval ρ x))) _
  rw [hf.eval,hf.eval,hf.eval]
  exact zS fun h' e=>He a e
 | load t x =>
  show Fits (Em (Rx.eval ρ x) fun r o=>lF H (loadVar E H t r o)) _
  rw [hf.eval]
  exact Nz fun r o=>qw a fun v e=>NA a e
 | store t x y =>
  show Fits (Em (Rx.eval ρ x) fun r o=>qD (storeVar E H t r o (Rx.eval ρ y))) _
  rw [hf.eval,hf.eval]
  exact Nz fun r o=>zS fun h' e=>TM a e
 | nilCheck x =>
  show Fits (iA H (Rx.eval ρ x)) _
  rw [hf.eval]
  exact eB a (F:=fun H=>iA H _) fun H=>GX _ _
 | binOp op t x y yt =>
  show Fits (lF H (Jc E op t x y (Rx.eval ρ x) (Rx.eval ρ y))) _
  rw [hf.eval,hf.eval]
  exact qw a fun v e=>e
 | unOp op t x =>
  show Fits (wT H (Rx.eval ρ x) fun _=>bV E.prog (Op.unary op (Rx.eval ρ x))) _
  rw [hf.eval]
  exact eB a (F:=fun H=>wT H _ _) fun H=>TK _ _ _
 | convert src dst x =>
  show Fits (converted E H src dst (Rx.eval ρ x)) _
  rw [hf.eval]
  exact NH a
 | sliceToArrayPointer t x =>
  show Fits (jr H (Rx.eval ρ x) (E.ty t)) _
  rw [hf.eval]
  exact eB a (F:=fun H=>jr H _ _) fun H=>Jl _ _ _
 | makeInterface t x =>
  show Fits (oo H t (Rx.eval ρ x) (E.ty t)) _
  rw [hf.eval]
  exact eB a (F:=fun H=>oo H t _ _) fun H=>Ns _ _ _ _
 | makeFunc fn x y =>
  show Fits (funcOf H fn (Rx.jG ρ x.toList) (Rx.jG ρ y.toList)) _
  rw [hf.jG,hf.jG]
  exact eB a (F:=fun H=>funcOf H fn _ _) fun H=>P6 _ _ _ _
 | makeMap t r =>
  show Fits (ji (xC E ρ t r) H) _
  have hx:xC E ρ t r = (match r with | none=>gW | some x=>zB (E.ty t) (bI φ x)):=by
   cases r with
   | none=>rfl
   | some x=>show zB (E.ty t) (Rx.eval ρ x) = _; rw [hf.eval]
  rw [hx]
  refine Qd a fun y hy=>?_
  split at hy
  ·cases hy; rfl
  ·unfold zB at hy
   split at hy
   ·split at hy
    ·split at hy
     ·cases hy; rfl
     ·cases hy
    ·cases hy
   ·cases hy
 | makeSlice t l c =>
  show Fits (ji (mo (asNat 100000 (Rx.eval ρ l)) (asNat 100000 (Rx.eval ρ c)) (dJ E t)) H) _
  rw [hf.eval,hf.eval]
  exact VZ a
 | slice t x lo hi mx =>
  show Fits (match E.ty t with | some i=>fE E H (Rx.eval ρ x) (Rx.fA ρ lo) (Rx.fA ρ hi) (Rx.fA ρ mx) i | none=>.fail) _
  rw [hf.eval,hf.fA,hf.fA,hf.fA]
  simp only [fP]
  cases E.ty t with
  | none=>trivial
  | some i=>exact TU a
 | fieldAddr t x f =>
  show Fits (iJ E H (Rx.eval ρ x) (lZ (E.ty t) f)) _
  rw [hf.eval]
  exact eB a (F:=fun H=>iJ E H _ _) fun H=>GY _ _ _
 | field t x f =>
  show Fits (pK E H (Rx.eval ρ x) (lZ (E.ty t) f)) _
  rw [hf.eval]
  exact eB a (F:=fun H=>pK E H _ _) fun H=>P7 _ _ _
 | indexAddr t x j =>
  show Fits (gy E H (Rx.eval ρ x) (Rx.eval ρ j) (E.ty t)) _
  rw [hf.eval,hf.eval]
  exact eB a (F:=fun H=>gy E H _ _ _) fun H=>EX _ _ _ _
 | index t x j =>
  show Fits (kY E H (Rx.eval ρ x) (Rx.eval ρ j) (E.ty t)) _
  rw [hf.eval,hf.eval]
  exact eB a (F:=fun H=>kY E H _ _ _) fun H=>Nu _ _ _ _
 | lookup t x j ok =>
  show Fits (lF H (zx E H t (Rx.eval ρ x) (Rx.eval ρ j) ok)) _
  rw [hf.eval,hf.eval]
  exact qw a fun v e=>Qb a e
 | mapUpdate t m k x =>
  show Fits (qD (vD E H t (Rx.eval ρ m) (Rx.eval ρ k) (Rx.eval ρ x))) _
  rw [hf.eval,hf.eval,hf.eval]
  exact zS fun h' e=>He a e
 | mapEntry t m k =>
  show Fits (FW E H t (Rx.eval ρ m) (Rx.eval ρ k)) _
  rw [hf.eval,hf.eval]
  exact TN a _ _ _
 | entryStore t m s x =>
  show Fits (qD (rG H (Rx.eval ρ m) (Rx.eval ρ s) (Rx.eval ρ x))) _
  rw [hf.eval,hf.eval,hf.eval]
  exact zS fun h' e=>Hf a e
 | range t x =>
  show Fits (ji (zF (E.ty t) (Rx.eval ρ x)) H) _
  rw [hf.eval]
  exact TV a
 | next x b =>
  show Fits (KF H b (Rx.eval ρ x)) _
  rw [hf.eval]
  exact V3 a
 | extract x i =>
  show Fits (extracted H (Rx.eval ρ x) i) _
  rw [hf.eval]
  exact eB a (F:=fun H=>extracted H _ _) fun H=>Jm _ _ _
 | call c =>
  show Fits (F7 E ρ H type c.argTypes (Rx.jG ρ c.args.toList) c.callee) _
  rw [hf.jG]
  simp only [fP]
  cases c.callee with
  | value f =>
   show Fits (rM E H (Rx.eval ρ f) _) _
   rw [hf.eval]
   exact eB a (F:=fun H=>rM E H _ _) fun H=>TL _ _ _
  | builtin b=>exact NG a b _ _ _
  | invoke _ _=>trivial
 | _=>trivial

end
end Go.Rx
