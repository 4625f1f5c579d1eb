/- A part of the engine. -/
import Derived.Test.YtedneplaibmppaaWx2
set_option linter.unusedVariables false
set_option linter.unusedSectionVars false
set_option linter.unusedSimpArgs false
namespace Go.Rx
section
variable {E:Env} {H:Heap} {h:Hp} {ρ:T Value} {φ:Frame}
theorem Fits.val {v:Value}(a:HR H h):Fits (.val v H) (.val v h):=⟨H,rfl,a⟩
theorem qL (a:HR H h){x y:Option Value}(e:∀ v,y = some v→x = some v):Fits (lM H x) (hval h y):=by
 cases y with
 | none=>trivial
 | some v=>rw [e v rfl]; exact ⟨H,rfl,a⟩
theorem zP {x:Option Heap}{y:Option Hp}(e:∀ h',y = some h'→∃ H',x = some H'∧HR H' h'):Fits (qN x) (hmem y):=by
 cases y with
 | none=>trivial
 | some h' =>
  obtain ⟨H',e1,e2⟩:=e h' rfl;rw [e1]; exact ⟨H',rfl,e2⟩
theorem pU {β:Type}(n:Nat)(g:Nat→β):gZ n g = g n:=by cases n <;> rfl
theorem oD (a:HR H h){f:Nat→Value}{ob:gV}{o:Obj}(ho:lI ob o):Fits (laid f H ob) (.val (f h.next) (h.lay o)):=by
 unfold laid;have k:∀ {β:Type} (n:Nat) (g:Nat→β),gZ n g = g n:=fun n g=>by cases n <;> rfl
 rw [k];exact ⟨_,by rw [a.next],a.lay ho⟩
theorem Oh {v:Value}{k:Nat→Nat→dN}{k':Nat→Nat→fV}(e:∀ r o,Fits (k r o) (k' r o)):Fits (Ez v k) (DZ v k'):=by
 unfold DZ;split
 ·exact e _ _
 ·trivial
theorem Oi (a:HR H h){t:TypeId}{r o:Nat}{v:Value}(e:hload E h t r o = some v):loadVar E H t r o = some v:=by
 unfold hload at e;unfold loadVar
 cases hi:E.ty t with
 | none=>rw [hi] at e; cases e
 | some i =>
  rw [hi] at e;dsimp only at e ⊢;unfold zL at e;unfold PX
  cases hagg:i.agg with
  | true =>
   rw [hagg] at e;dsimp only at e ⊢
   cases hc:bJ h r o i.size with
   | none=>rw [hc] at e; cases e
   | some l=>rw [hc] at e; rw [a.load hc]; exact e
  | false =>
   rw [hagg] at e;dsimp only at e ⊢;rw [a.load (Oa e)];rfl
theorem UA (a:HR H h){t:TypeId}{r o:Nat}{v:Value}{h':Hp}(e:Lr E h t r o v = some h'):∃ H',storeVar E H t r o v = some H'∧HR H' h':=by
 unfold Lr at e;unfold storeVar;split at e
 ·rename_i i hi;rw [hi];dsimp only
  cases hc:cellsOf v with
  | none=>rw [hc] at e; cases e
  | some vs =>
   rw [hc] at e;dsimp only at e;split at e
   ·rename_i hl;obtain ⟨H',e1,e2⟩:=a.store e;refine ⟨H',?_,e2⟩;unfold KF;dsimp only;rw [show Nat.beq vs.length i.size = true from by rw [hl]; exact Nat.beq_refl _];exact e1
   ·cases e
 ·cases e
theorem wH (a:HR H h){r:Nat}{x:List Entry×Nat}(e:bP h r = some x):entriesOf (H.objs.get r) = some x:=by
 unfold bP at e;split at e
 ·rename_i es c hr;obtain ⟨ob,h1,h2⟩:=a.at_ r _ hr;cases ob <;> simp only [lI] at h2
  obtain ⟨rfl,rfl⟩:=h2;rw [h1]; exact e
 ·cases e
theorem J2 (a:HR H h){m:Value}{x:List Entry×Nat}(e:A9 h m = some x):mapOf H m = some x:=by
 unfold A9 at e;split at e
 ·exact e
 ·exact wH a e
 ·cases e
theorem Oj (kt et:TypeId)(k:Value)(ok:Bool):dO E kt et k ok none = none:=by
 unfold dO; split <;> rfl
theorem QC (a:HR H h){t:TypeId}{m k:Value}{ok:Bool}{v:Value}(e:wF E h t m k ok = some v):zq E H t m k ok = some v:=by
 unfold wF at e;unfold zq
 cases hi:E.ty t with
 | none=>rw [hi] at e; cases e
 | some i =>
  rw [hi] at e;dsimp only at e ⊢;split at e
  ·rename_i kt et hd;rw [hd];dsimp only
   cases hm:A9 h m with
   | none=>rw [hm,Oj] at e; cases e
   | some x=>rw [hm] at e; rw [J2 a hm]; exact e
  ·cases e
theorem Lv (a:HR H h){kt:TypeId}{r:Nat}{k v:Value}{h':Hp}(e:uQ E h kt r k v (bP h r) = some h'):∃ H',BF E H kt r k v (entriesOf (H.objs.get r)) = some H'∧HR H' h':=by
 unfold uQ at e;unfold BF;split at e
 ·cases e
 ·rename_i hk;split at e
  ·cases e
  ·rename_i es c hes;rw [wH a hes,hk];dsimp only;unfold cO at e;unfold updated;split at e
   ·cases e
   ·rename_i hf;rw [hf];dsimp only;split at e
    ·rename_i hs;cases e
     rw [hs];exact ⟨_,rfl,a.set r (ob:=.map _ _) ⟨rfl,rfl⟩⟩
    ·cases e
   ·rename_i hf;rw [hf];cases e
    exact ⟨_,rfl,a.set r (ob:=.map _ _) ⟨rfl,rfl⟩⟩
theorem Hf (a:HR H h){t:TypeId}{m k v:Value}{h':Hp}(e:sK E h t m k v = some h'):∃ H',vQ E H t m k v = some H'∧HR H' h':=by
 unfold sK at e;unfold vQ;split at e
 ·cases e
 ·rename_i i hi;rw [hi];dsimp only;split at e
  ·rename_i hd;rw [hd];dsimp only;split at e
   ·exact Lv a e
   ·cases e
  ·cases e
theorem Ol (a:HR H h)(kt et:TypeId)(r:Nat)(k:Value):Fits (Fj E H kt et r k (entriesOf (H.objs.get r))) (G9 E h kt et r k (bP h r)):=by
 unfold G9 Fj
 cases hk:dZ E kt k with
 | false=>trivial
 | true =>
  dsimp only
  cases hes:bP h r with
  | none=>trivial
  | some x =>
   obtain ⟨es,c⟩:=x;rw [wH a hes];dsimp only
   cases hei:E.ty et with
   | none=>trivial
   | some ei =>
    dsimp only;unfold Oe entered
    cases hf:findKey E.prog kt k es 0 with
    | none=>trivial
    | some y =>
     cases y with
     | none =>
      dsimp only
      cases ei.zero with
      | none=>trivial
      | some z=>exact ⟨_,rfl,a.set r (ob:=.map _ _) ⟨rfl,rfl⟩⟩
     | some z =>
      obtain ⟨i,k',v,b⟩:=z;dsimp only
      cases Instr.sameBits 10000 k' k with
      | true=>exact ⟨_,rfl,a.set r (ob:=.map _ _) ⟨rfl,rfl⟩⟩
      | false=>trivial
theorem UC (a:HR H h)(t:TypeId)(m k:Value):Fits (FZ E H t m k) (QA E h t m k):=by
 unfold QA FZ
 cases hi:E.ty t with
 | none=>trivial
 | some i =>
  dsimp only
  cases i.desc with
  | map kt et =>
   dsimp only
   cases m with
   | map r =>
    cases r with
    | none=>trivial
    | some r=>exact Ol a kt et r k
   | _=>trivial
  | _=>trivial
theorem Hg (a:HR H h){m s v:Value}{h':Hp}(e:yF h m s v = some h'):∃ H',rZ H m s v = some H'∧HR H' h':=by
 unfold yF at e;split at e
 ·rename_i r;unfold Cv at e
  cases hes:bP h r with
  | none=>rw [hes] at e; cases e
  | some x =>
   obtain ⟨es,c⟩:=x;rw [hes] at e;show ∃ H',rY H r s v (entriesOf (H.objs.get r)) = some H'∧_;rw [wH a hes];unfold rY;dsimp only at e ⊢;split at e
   ·unfold Og at e;dsimp only;split at e
    ·rename_i hb;cases e
     rw [hb];exact ⟨_,rfl,a.set r (ob:=.map _ _) ⟨rfl,rfl⟩⟩
    ·cases e
   ·cases e
 ·cases e
theorem zQ (a:HR H h){size n:Nat}{v:Value}{l:List Value}(e:dh h size n v = some l):elems H size n v = some l:=by
 unfold dh at e;split at e
 ·rename_i r o sp l' c';show sj H r o (Nat.mul n size) sp = _;split at e
  ·split at e
   ·rename_i hz;cases e
    unfold sj;rw [show Nat.mul n size = 0 from hz];rfl
   ·cases e
  ·rename_i hne;unfold sj;split
   ·exact absurd rfl hne
   ·exact a.load e
 ·exact e
 ·exact e
 ·cases e
theorem UD (a:HR H h){base:Option Addr}{e sc size:Nat}{h':Hp}(k:dG h base e sc size = some h'):∃ H',moved H base e sc size = some H'∧HR H' h':=by
 unfold dG at k;unfold moved;split at k
 ·cases k; exact ⟨H,rfl,a⟩
 ·rename_i r o;dsimp only;split at k
  ·rename_i e' x cs hr;obtain ⟨ob,h1,h2⟩:=a.at_ r _ hr;cases ob <;> simp only [lI] at h2
   rename_i e'' n x' cells;obtain ⟨q1,q2,q3,q4⟩:=h2;subst q1 q2;rw [h1];unfold BG;split at k
   ·cases k; exact ⟨H,rfl,a⟩
   ·split at k
    ·rename_i hc;cases k
     refine ⟨H.set r .dead,?_,a.set r trivial⟩;dsimp only;rw [show (Nat.beq e e'' && Nat.ble (Nat.add o (Nat.mul sc size)) n) = true from by
      rw [Bool.and_eq_true];exact ⟨by rw [hc.1]; exact Nat.beq_refl _,by rw [Nat.ble_eq,← q3]; exact hc.2⟩]
    ·cases k
  ·cases k
 ·cases k; exact ⟨H,rfl,a⟩
theorem WQ (a:HR H h){ei:TI}{base:Option Addr}{sl sc l:Nat}{new:List Value}:Fits (vS H ei base sl sc l new) (hfits h ei base sl sc l new):=by
 unfold hfits vS
 cases base with
 | none =>
  dsimp only
  cases new with
  | nil=>exact ⟨H,rfl,a⟩
  | cons=>trivial
 | some b =>
  obtain ⟨r,o,s⟩:=b;dsimp only
  cases hs:storeAt h r (o + sl * ei.size) new with
  | none=>trivial
  | some h' =>
   obtain ⟨H',e1,e2⟩:=a.store hs;rw [show Nat.add o (Nat.mul sl ei.size) = o + sl * ei.size from rfl,e1];exact ⟨H',rfl,e2⟩
theorem UE (a:HR H h){e:TypeId}{ei:TI}{base:Option Addr}{sc n l:Nat}{new:List Value}{x y:Option (List Value)}(hxy:∀ l,y = some l→x = some l):Fits (su H e ei base sc n l new x) (Ls h e ei base sc n l new y):=by
 unfold Ls
 cases y with
 | none=>trivial
 | some old =>
  rw [hxy _ rfl];unfold su;dsimp only
  cases nZ ei n l new && Nat.ble 1 ei.size with
  | false=>trivial
  | true =>
   dsimp only;unfold qg grown
   cases hm:dG h base e sc ei.size with
   | none=>trivial
   | some h' =>
    obtain ⟨H',e1,e2⟩:=UD a hm;rw [e1];exact oD (f:=fun r=>slc r 0 l l) e2 (lI.rowOf _ _ _)
theorem Lx (a:HR H h){e:TypeId}{ei:TI}{base:Option Addr}{sl sc n:Nat}{x y:Option (List Value)}(hxy:∀ l,y = some l→x = some l):Fits (BH H e ei base sl sc n x) (zM h e ei base sl sc n y):=by
 unfold zM
 cases y with
 | none=>trivial
 | some new =>
  rw [hxy _ rfl];unfold BH;dsimp only;rw [pU];have hadd:Nat.add sl n = sl + n:=rfl;rw [hadd];by_cases hle:sl + n≤sc
  ·rw [if_pos hle,show Nat.ble (sl + n) sc = true from by rw [Nat.ble_eq]; exact hle];exact WQ a
  ·rw [if_neg hle,show Nat.ble (sl + n) sc = false from by rw [← Bool.not_eq_true,Nat.ble_eq]; exact hle];exact UE a fun l hl=>zQ a hl
theorem Hl (a:HR H h)(s x:Value)(xt:TypeId)(se:Option (TypeId×TI)):Fits (vU E H s x xt se) (sM E h s x xt se):=by
 unfold sM vU
 cases se with
 | none=>trivial
 | some q =>
  obtain ⟨e,ei⟩:=q;dsimp only
  cases E.ty xt with
  | none=>trivial
  | some xi =>
   dsimp only
   cases og xi.desc with
   | true=>trivial
   | false =>
    dsimp only
    cases lenOf x with
    | none=>trivial
    | some n =>
     dsimp only
     cases s with
     | slice base sl sc =>
      dsimp only
      cases jR base with
      | true=>trivial
      | false=>exact Lx a fun l hl=>zQ a hl
     | _=>trivial
theorem QD (a:HR H h)(ts:List TypeId)(as:List Value):Fits (Fp E H ts as) (FH E h ts as):=by
 unfold FH;split
 ·split
  ·exact Hl a _ _ _ _
  ·trivial
 ·trivial
theorem LA (a:HR H h){base:Option Addr}{n:Nat}{x y:Option (List Value)}(hxy:∀ l,y = some l→x = some l):Fits (BI H base n x) (zN h base n y):=by
 unfold zN
 cases y with
 | none=>trivial
 | some new =>
  rw [hxy _ rfl];unfold BI;dsimp only
  cases base with
  | none=>exact ⟨H,rfl,a⟩
  | some b =>
   obtain ⟨r,o,sp⟩:=b;dsimp only
   cases fA sp with
   | true=>trivial
   | false =>
    dsimp only
    cases hs:storeAt h r o new with
    | none=>trivial
    | some h' =>
     obtain ⟨H',e1,e2⟩:=a.store hs;rw [e1];exact ⟨H',rfl,e2⟩
theorem LB (a:HR H h)(s x:Value)(se:Option (TypeId×TI)):Fits (BJ H s x se) (zO h s x se):=by
 unfold zO BJ
 cases se with
 | none=>trivial
 | some q =>
  obtain ⟨e,ei⟩:=q;dsimp only
  cases s with
  | slice base dl c =>
   dsimp only
   cases lenOf x with
   | none=>trivial
   | some sl =>
    dsimp only;rw [pU];exact LA a fun l hl=>zQ a hl
  | _=>trivial
theorem WR (a:HR H h)(ts:List TypeId)(as:List Value):Fits (Sg E H ts as) (hcopy E h ts as):=by
 unfold hcopy;split
 ·split
  ·exact LB a _ _ _
  ·trivial
 ·trivial
theorem UF {x:Value}{i:TI}(hne:∀ k e,i.desc≠.map k e)(H:Heap):xE E H x i = xE E D0 x i:=by
 unfold xE;split <;> first | rfl | (rename_i k e hd; exact absurd hd (hne _ _))
theorem Y7 (a:HR H h){ts:List TypeId}{as:List Value}{v:Value}(e:hlen E h ts as = some v):YQ E H ts as = some v:=by
 unfold hlen at e;unfold YQ;split at e
 ·dsimp only;split at e
  ·dsimp only;split at e
   ·cases e
   ·rename_i i hi;rw [hi];dsimp only;unfold Ba at e;split at e
    ·rename_i k el hd;unfold xE;rw [hd];dsimp only
     cases hm:A9 h _ with
     | none=>rw [hm] at e; cases e
     | some y=>rw [hm] at e; rw [J2 a hm]; exact e
    ·rename_i hne;rw [UF (fun k el hd=>hne _ _ hd)];exact e
  ·cases e
 ·cases e
theorem UG (a:HR H h){x:Value}{i:TI}{v:Value}(e:QB h x i = some v):F5 H x i = some v:=by
 unfold QB at e;split at e
 ·rename_i hd;split at e
  ·unfold F5; rw [hd]; exact e
  ·rename_i r o l n;unfold F5;rw [hd];show capOf n (H.objs.get r) = some v;unfold WO at e;split at e
   ·rename_i hr;obtain ⟨ob,h1,h2⟩:=a.at_ _ _ hr;cases ob <;> simp only [lI] at h2
    obtain ⟨q1,q2,q3,q4⟩:=h2;subst q2;rw [h1];exact e
   ·cases e
  ·unfold F5; rw [hd]; exact e
  ·cases e
 ·cases e
theorem Y8 (a:HR H h){ts:List TypeId}{as:List Value}{v:Value}(e:hcap E h ts as = some v):YR E H ts as = some v:=by
 cases ts with
 | nil=>cases e
 | cons t ts =>
  cases as with
  | nil=>cases e
  | cons x as =>
   unfold hcap at e;unfold YR;dsimp only at e ⊢
   cases hi:E.ty t with
   | none=>rw [hi] at e; cases e
   | some i=>rw [hi] at e; exact UG a e
theorem Om (a:HR H h)(b:Builtin)(ts:Array TypeId)(type:TypeId)(as:List Value):Fits (uz E H b ts type as) (uR E h b ts type as):=by
 cases b <;> simp only [uR,uz] <;> first | trivial | skip
 ·exact QD a _ _
 ·exact qL a fun v e=>Y8 a e
 ·exact WR a _ _
 ·exact qL a fun v e=>Y7 a e
 ·exact fq a (F:=fun H=>nk H as _) fun H=>G8 _ _ _
 ·exact fq a (F:=fun H=>nk H as _) fun H=>G8 _ _ _
theorem UH (a:HR H h){v:Value}{lo hi mx:Option Value}{i:TI}:Fits (fI E H v lo hi mx i) (He E h v lo hi mx i):=by
 have hcl:∀ (size r o:Nat) (b:Option (Nat×Nat×Nat)) (H:Heap),mH H size r o b = retag (mH D0 size r o b) H:=fun size r o b H=>by cases b <;> rfl
 have hce:∀ (size r o:Nat) (b:Option (Nat×Nat×Nat)) (H:Heap),kQ H size r o b = retag (kQ D0 size r o b) H:=fun size r o b H=>by cases b <;> rfl
 have hco:∀ (size r o:Nat) (b:Option (Nat×Nat×Nat)) (H:Heap),oP H size r o b = retag (oP D0 size r o b) H:=fun size r o b H=>by
  cases b with
  | none=>rfl
  | some b =>
   obtain ⟨l,hh,m⟩:=b;unfold oP;dsimp only
   cases Nat.ble (Nat.succ l) m with
   | true=>rfl
   | false =>
    unfold xH;dsimp only;cases Nat.beq (Nat.sub hh l) 0 && Nat.beq (Nat.sub m l) 0 <;> rfl
 have ab3:∀ (size r o:Nat) (nm:Bool) (b:Option (Nat×Nat×Nat)) (H:Heap),nW H size r o nm b = retag (nW D0 size r o nm b) H:=fun size r o nm b H=>by
  cases nm
  ·exact hcl _ _ _ _ _
  ·exact hco _ _ _ _ _
 have hcn:∀ (b:Option (Nat×Nat×Nat)) (H:Heap),xI H b = retag (xI D0 b) H:=fun b H=>by cases b <;> rfl
 have hcv:∀ (nm:Bool) (b:Option (Nat×Nat×Nat)) (H:Heap),sD H nm b = retag (sD D0 nm b) H:=fun nm b H=>by cases nm <;> cases b <;> rfl
 have hcs:∀ (s:ByteArray) (m:Option Value) (b:Option (Nat×Nat×Nat)) (H:Heap),oh H s m b = retag (oh D0 s m b) H:=fun s m b H=>by
  unfold oh
  cases m with
  | some _=>rfl
  | none=>cases b <;> rfl
 have gen:(∀ H,fI E H v lo hi mx i = retag (fI E D0 v lo hi mx i) H)→Fits (fI E H v lo hi mx i) (lift (fI E D0 v lo hi mx i) h):=fun e=>fq a (F:=fun H=>fI E H v lo hi mx i) e;unfold He
 cases hd:i.desc with
 | slice elem =>
  dsimp only
  cases he:E.ty elem with
  | none=>trivial
  | some ei =>
   dsimp only
   cases v with
   | slice b len cap =>
    cases b with
    | none =>
     refine gen fun H=>?_;unfold fI; rw [hd]; dsimp only; rw [he]; exact hcn _ _
    | some b =>
     obtain ⟨r,o,sp⟩:=b
     cases sp with
     | none =>
      dsimp only;unfold fI; rw [hd]; dsimp only; rw [he]; dsimp only;unfold nK
      cases hr:h.at r with
      | none=>trivial
      | some ob =>
       obtain ⟨o2,h1,h2⟩:=a.at_ r _ hr;rw [h1];unfold F9;cases ob <;> dsimp only <;> first | trivial | skip
       ·cases o2 <;> simp only [lI] at h2
        obtain ⟨q1,q2,q3,q4⟩:=h2;subst q2;rename_i x _ _ _ _;dsimp only;split
        ·exact fq a (F:=fun H=>kQ H ei.size r o _) fun H=>hce _ _ _ _ _
        ·exact fq a (F:=fun H=>nW H ei.size r o _ _) fun H=>ab3 _ _ _ _ _ _
       ·cases o2 <;> simp only [lI] at h2
        exact fq a (F:=fun H=>nW H ei.size r o _ _) fun H=>ab3 _ _ _ _ _ _
     | some sp =>
      refine gen fun H=>?_;unfold fI; rw [hd]; dsimp only; rw [he]; dsimp only;split
      ·rename_i hx; cases hx
      ·rename_i hx; cases hx
      ·exact hcl _ _ _ _ _
      ·exact hcv _ _ _
      ·rfl
   | _ =>
    refine gen fun H=>?_;unfold fI; rw [hd]; dsimp only; rw [he]; rfl
 | string =>
  refine gen fun H=>?_;unfold fI; rw [hd]; dsimp only
  cases v with
  | string s=>exact hcs _ _ _ _
  | _=>rfl
 | array n elem =>
  refine gen fun H=>?_;unfold fI; rw [hd]; dsimp only
  cases E.ty elem with
  | none=>rfl
  | some ei =>
   dsimp only;split
   ·exact hcl _ _ _ _ _
   ·rfl
 | _ =>
  refine gen fun H=>?_;unfold fI; rw [hd]; rfl
theorem WS (a:HR H h){t:TypeId}{len:Nat}{ps:List (Nat×Value)}:Fits (jf (kP len ps (dK E t)) H) (aak h len (zK E t len ps)):=by
 unfold zK kP
 cases dK E t with
 | none=>trivial
 | some q =>
  obtain ⟨e,ei⟩:=q;dsimp only
  cases zeroCells ei with
  | none=>trivial
  | some z =>
   dsimp only;unfold xG
   cases Nat.ble (Nat.mul len ei.size) 10000 && Nat.beq z.length ei.size with
   | false=>trivial
   | true =>
    dsimp only;unfold KI
    cases fill (iK ei.size) (times z len) ps with
    | none=>trivial
    | some cells=>exact oD (f:=fun r=>slc r 0 len len) a (lI.rowOf _ _ _)
theorem WT (a:HR H h){l c:Option Nat}{se:Option (TypeId×TI)}:Fits (jf (mG l c se) H) (aal h (wG l c se)):=by
 unfold wG mG
 cases se with
 | none=>trivial
 | some q =>
  obtain ⟨e,ei⟩:=q;dsimp only
  cases zeroCells ei with
  | none=>trivial
  | some z =>
   dsimp only
   cases l with
   | none=>trivial
   | some l =>
    dsimp only
    cases c with
    | none=>trivial
    | some c =>
     dsimp only;unfold AA
     cases Nat.ble l c && Nat.ble (Nat.mul ei.bytes c) 1073741824 && Nat.beq z.length ei.size with
     | false=>trivial
     | true=>exact oD (f:=fun r=>slc r 0 l c) a (lI.rowOf _ _ _)
theorem QE (a:HR H h){x:New}(hx:∀ y,x = some y→y = (bL,.map [] 0)):Fits (jf x H) (SE x h):=by
 cases x with
 | none=>trivial
 | some y=>rw [hx y rfl]; exact oD (f:=bL) a ⟨rfl,rfl⟩
theorem UJ (a:HR H h){i:Option TI}{v:Value}:Fits (jf (zB i v) H) (hrange h i v):=by
 unfold hrange zB
 cases i with
 | none=>trivial
 | some i =>
  dsimp only;cases i.desc <;> dsimp only <;> first | trivial | skip
  cases v <;> dsimp only <;> first | trivial | skip
  exact oD (f:=xC) a ⟨rfl,rfl⟩
theorem QF (a:HR H h){r:Nat}{s:ByteArray}{pos:Nat}:Fits (Gb H r (some (.iter s pos))) (if pos < s.size then Lu h r s pos (Utf8.decode s pos) else .val (.tuple #[.bool false]) h):=by
 unfold Gb;dsimp only;by_cases hlt:pos < s.size
 ·rw [if_pos hlt,show Nat.ble (Nat.succ pos) s.size = true from by rw [Nat.ble_eq]; exact hlt];dsimp only;unfold kR Lu
  cases hp:Utf8.decode s pos with
  | mk c w =>
   dsimp only;rw [pU,pU];exact ⟨_,rfl,a.set r (ob:=.iter _ _) ⟨rfl,rfl⟩⟩
 ·rw [if_neg hlt,show Nat.ble (Nat.succ pos) s.size = false from by rw [← Bool.not_eq_true,Nat.ble_eq]; exact hlt];exact ⟨_,rfl,a⟩
theorem WU (a:HR H h){b:Bool}{v:Value}:Fits (KN H b v) (hnext h b v):=by
 unfold hnext
 cases b with
 | false=>trivial
 | true =>
  dsimp only;split
  ·rename_i r;show Fits (Gb H r (H.objs.get r)) _
   cases hr:h.at r with
   | none=>trivial
   | some ob =>
    obtain ⟨o2,h1,h2⟩:=a.at_ r _ hr;cases ob <;> dsimp only <;> first | trivial | skip
    cases o2 <;> simp only [lI] at h2
    obtain ⟨rfl,rfl⟩:=h2;rw [h1];exact QF a
  ·trivial
theorem Oo (a:HR H h){src dst:TypeId}{v:Value}:Fits (converted E H src dst v) (pR E h src dst v):=by
 unfold pR converted
 cases dP 1 v with
 | true=>exact qL a fun v e=>e
 | false =>
  dsimp only;unfold q8 zy
  cases v with
  | slice b len cap =>
   cases b with
   | none=>trivial
   | some b =>
    obtain ⟨r,o,sp⟩:=b;dsimp only
    cases isBytes E src && isStr E dst with
    | false=>trivial
    | true =>
     dsimp only
     cases hb:dh h 1 len (.slice (some ⟨r,o,sp⟩) len len) with
     | none=>trivial
     | some l =>
      have hl:=zQ a hb;have hl':sj H r o (Nat.mul len 1) sp = some l:=hl;rw [show Nat.mul len 1 = len from Nat.mul_one len] at hl';rw [hl'];unfold textOf
      cases BP (some l) with
      | none=>trivial
      | some bs=>exact ⟨_,rfl,a⟩
  | _=>trivial
theorem WV (hf:FR ρ φ)(a:HR H h)(op:Op)(type:TypeId):Fits (aop op E ρ H type) (fQ E op type φ h):=by
 cases op with
 | move x=>exact ⟨H,by show dN.val (Rx.eval ρ x) H = _; rw [hf.eval],a⟩
 | assign x=>exact ⟨H,by show dN.val (Rx.eval ρ x) H = _; rw [hf.eval],a⟩
 | pick c x y =>
  show Fits (picked ρ H x y (Rx.eval ρ c)) _;rw [hf.eval];show Fits _ (match bI φ c with | .bool true=>.val (bI φ x) h | .bool false=>.val (bI φ y) h | _=>.fail)
  cases bI φ c with
  | bool b =>
   cases b
   ·exact ⟨H,by rw [← hf.eval]; rfl,a⟩
   ·exact ⟨H,by rw [← hf.eval]; rfl,a⟩
  | _=>trivial
 | alloc t =>
  show Fits (jf (allocated t (zeroOf (E.ty t))) H) (Od h t (Cu E t));unfold Cu allocated
  cases zeroOf (E.ty t) with
  | none=>trivial
  | some z =>
   dsimp only
   cases cellsOf z with
   | none=>trivial
   | some cells=>exact oD (f:=xC) a (lI.rowOf _ _ _)
 | box t x =>
  show Fits (jf (boxed t (cellsOf (Rx.eval ρ x))) H) (Od h t (cellsOf (bI φ x)));rw [hf.eval]
  cases cellsOf (bI φ x) with
  | none=>trivial
  | some cells=>exact oD (f:=xC) a (lI.rowOf _ _ _)
 | build t ps =>
  show Fits (match E.ty t with | some i=>qc E H (Rx.fU ρ ps.toList) i | none=>.fail) (hbuild E h t (Cr φ ps.toList));rw [hf.fU];unfold hbuild
  cases E.ty t with
  | none=>trivial
  | some i=>exact fq a (F:=fun H=>qc E H _ i) fun H=>Qz _ _ _
 | buildSlice t len ps =>
  show Fits (jf (kP len (Rx.fU ρ ps.toList) (dK E t)) H) _;rw [hf.fU];exact WS a
 | insert t m k x =>
  show Fits (qN (vQ E H t (Rx.eval ρ m) (Rx.eval ρ k) (Rx.eval ρ x))) _;rw [hf.eval,hf.eval,hf.eval];exact zP fun h' e=>Hf a e
 | load t x =>
  show Fits (Ez (Rx.eval ρ x) fun r o=>lM H (loadVar E H t r o)) _;rw [hf.eval];exact Oh fun r o=>qL a fun v e=>Oi a e
 | store t x y =>
  show Fits (Ez (Rx.eval ρ x) fun r o=>qN (storeVar E H t r o (Rx.eval ρ y))) _;rw [hf.eval,hf.eval];exact Oh fun r o=>zP fun h' e=>UA a e
 | nilCheck x =>
  show Fits (iB H (Rx.eval ρ x)) _;rw [hf.eval];exact fq a (F:=fun H=>iB H _) fun H=>G6 _ _
 | binOp op t x y yt =>
  show Fits (lM H (PY E op t x y (Rx.eval ρ x) (Rx.eval ρ y))) _;rw [hf.eval,hf.eval];exact qL a fun v e=>e
 | unOp op t x =>
  show Fits (wX H (Rx.eval ρ x) fun _=>bR E.prog (Op.unary op (Rx.eval ρ x))) _;rw [hf.eval];exact fq a (F:=fun H=>wX H _ _) fun H=>Uy _ _ _
 | convert src dst x =>
  show Fits (converted E H src dst (Rx.eval ρ x)) _;rw [hf.eval];exact Oo a
 | sliceToArrayPointer t x =>
  show Fits (jv H (Rx.eval ρ x) (E.ty t)) _;rw [hf.eval];exact fq a (F:=fun H=>jv H _ _) fun H=>Jr _ _ _
 | makeInterface t x =>
  show Fits (oO H t (Rx.eval ρ x) (E.ty t)) _;rw [hf.eval];exact fq a (F:=fun H=>oO H t _ _) fun H=>Ob _ _ _ _
 | makeFunc fn x y =>
  show Fits (funcOf H fn (Rx.jH ρ x.toList) (Rx.jH ρ y.toList)) _;rw [hf.jH,hf.jH];exact fq a (F:=fun H=>funcOf H fn _ _) fun H=>Qx _ _ _ _
 | makeMap t r =>
  show Fits (jf (xJ E ρ t r) H) _;have hx:xJ E ρ t r = (match r with | none=>iC | some x=>zx (E.ty t) (bI φ x)):=by
   cases r with
   | none=>rfl
   | some x=>show zx (E.ty t) (Rx.eval ρ x) = _; rw [hf.eval]
  rw [hx];refine QE a fun y hy=>?_;split at hy
  ·cases hy; rfl
  ·unfold zx at hy;split at hy
   ·split at hy
    ·split at hy
     ·cases hy; rfl
     ·cases hy
    ·cases hy
   ·cases hy
 | makeSlice t l c =>
  show Fits (jf (mG (asNat 100000 (Rx.eval ρ l)) (asNat 100000 (Rx.eval ρ c)) (dK E t)) H) _;rw [hf.eval,hf.eval];exact WT a
 | slice t x lo hi mx =>
  show Fits (match E.ty t with | some i=>fI E H (Rx.eval ρ x) (Rx.fF ρ lo) (Rx.fF ρ hi) (Rx.fF ρ mx) i | none=>.fail) _;rw [hf.eval,hf.fF,hf.fF,hf.fF];simp only [fQ]
  cases E.ty t with
  | none=>trivial
  | some i=>exact UH a
 | fieldAddr t x f =>
  show Fits (iL E H (Rx.eval ρ x) (mo (E.ty t) f)) _;rw [hf.eval];exact fq a (F:=fun H=>iL E H _ _) fun H=>G7 _ _ _
 | field t x f =>
  show Fits (qd E H (Rx.eval ρ x) (mo (E.ty t) f)) _;rw [hf.eval];exact fq a (F:=fun H=>qd E H _ _) fun H=>Qy _ _ _
 | indexAddr t x j =>
  show Fits (gM E H (Rx.eval ρ x) (Rx.eval ρ j) (E.ty t)) _;rw [hf.eval,hf.eval];exact fq a (F:=fun H=>gM E H _ _ _) fun H=>Fe _ _ _ _
 | index t x j =>
  show Fits (lF E H (Rx.eval ρ x) (Rx.eval ρ j) (E.ty t)) _;rw [hf.eval,hf.eval];exact fq a (F:=fun H=>lF E H _ _ _) fun H=>Oc _ _ _ _
 | lookup t x j ok =>
  show Fits (lM H (zq E H t (Rx.eval ρ x) (Rx.eval ρ j) ok)) _;rw [hf.eval,hf.eval];exact qL a fun v e=>QC a e
 | mapUpdate t m k x =>
  show Fits (qN (vQ E H t (Rx.eval ρ m) (Rx.eval ρ k) (Rx.eval ρ x))) _;rw [hf.eval,hf.eval,hf.eval];exact zP fun h' e=>Hf a e
 | mapEntry t m k =>
  show Fits (FZ E H t (Rx.eval ρ m) (Rx.eval ρ k)) _;rw [hf.eval,hf.eval];exact UC a _ _ _
 | entryStore t m s x =>
  show Fits (qN (rZ H (Rx.eval ρ m) (Rx.eval ρ s) (Rx.eval ρ x))) _;rw [hf.eval,hf.eval,hf.eval];exact zP fun h' e=>Hg a e
 | range t x =>
  show Fits (jf (zB (E.ty t) (Rx.eval ρ x)) H) _;rw [hf.eval];exact UJ a
 | next x b =>
  show Fits (KN H b (Rx.eval ρ x)) _;rw [hf.eval];exact WU a
 | extract x i =>
  show Fits (extracted H (Rx.eval ρ x) i) _;rw [hf.eval];exact fq a (F:=fun H=>extracted H _ _) fun H=>Js _ _ _
 | call c =>
  show Fits (Ga E ρ H type c.argTypes (Rx.jH ρ c.args.toList) c.callee) _;rw [hf.jH];simp only [fQ]
  cases c.callee with
  | value f =>
   show Fits (sw E H (Rx.eval ρ f) _) _;rw [hf.eval];exact fq a (F:=fun H=>sw E H _ _) fun H=>Uz _ _ _
  | builtin b=>exact Om a b _ _ _
  | invoke _ _=>trivial
 | _=>trivial
end
end Go.Rx
