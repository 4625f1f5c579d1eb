/- Contracts by what is to be shown of each step: a part of the engine. -/
import Derived.Test.YtljbibjnidccbabWx2
set_option linter.unusedVariables false
set_option linter.unusedSectionVars false
set_option linter.unusedSimpArgs false
namespace Go.Rx

section
variable {E:Env} {H:Heap} {h:Hp} {ρ:T Value} {φ:Frame}

theorem Fits.val {v:Value} (a:HR H h):Fits (.val v H) (.val v h):=⟨H,rfl,a⟩

theorem fits_hval (a:HR H h) {x y:Option Value} (e:∀ v,y = some v→x = some v):Fits (ofVal H x) (hval h y):=by
 cases y with
 | none=>trivial
 | some v=>rw [e v rfl]; exact ⟨H,rfl,a⟩

theorem fits_hmem {x:Option Heap} {y:Option Hp} (e:∀ h',y = some h'→∃ H',x = some H'∧HR H' h'):Fits (ofHeap x) (hmem y):=by
 cases y with
 | none=>trivial
 | some h' =>
  obtain ⟨H',e1,e2⟩:=e h' rfl
  rw [e1]; exact ⟨H',rfl,e2⟩

theorem forceNat_id {β:Type} (n:Nat) (g:Nat→β):forceNat n g = g n:=by cases n <;> rfl

theorem fits_laid (a:HR H h) {f:Nat→Value} {ob:AObj} {o:Obj} (ho:ORep ob o):Fits (laid f H ob) (.val (f h.next) (h.lay o)):=by
 unfold laid
 have k:∀ {β:Type} (n:Nat) (g:Nat→β),forceNat n g = g n:=fun n g=>by cases n <;> rfl
 rw [k]
 exact ⟨_,by rw [a.next],a.lay ho⟩

theorem fits_ptr {v:Value} {k:Nat→Nat→ARes} {k':Nat→Nat→HRes} (e:∀ r o,Fits (k r o) (k' r o)):Fits (atPtr v k) (hptr v k'):=by
 unfold hptr
 split
 ·exact e _ _
 ·trivial

theorem hload_ok (a:HR H h) {t:TypeId} {r o:Nat} {v:Value} (e:hload E h t r o = some v):loadVar E H t r o = some v:=by
 unfold hload at e
 unfold loadVar
 cases hi:E.ty t with
 | none=>rw [hi] at e; cases e
 | some i =>
  rw [hi] at e
  dsimp only at e ⊢
  unfold hloadTI at e
  unfold loadTI
  cases hagg:i.agg with
  | true =>
   rw [hagg] at e
   dsimp only at e ⊢
   cases hc:cellsAt h r o i.size with
   | none=>rw [hc] at e; cases e
   | some l=>rw [hc] at e; rw [a.load hc]; exact e
  | false =>
   rw [hagg] at e
   dsimp only at e ⊢
   rw [a.load (cellsAt_one e)]
   rfl

theorem hstore_ok (a:HR H h) {t:TypeId} {r o:Nat} {v:Value} {h':Hp} (e:hstore E h t r o v = some h'):∃ H',storeVar E H t r o v = some H'∧HR H' h':=by
 unfold hstore at e
 unfold storeVar
 split at e
 ·rename_i i hi
  rw [hi]
  dsimp only
  cases hc:cellsOf v with
  | none=>rw [hc] at e; cases e
  | some vs =>
   rw [hc] at e
   dsimp only at e
   split at e
   ·rename_i hl
    obtain ⟨H',e1,e2⟩:=a.store e
    refine ⟨H',?_,e2⟩
    unfold storeTI
    dsimp only
    rw [show Nat.beq vs.length i.size = true from by rw [hl]; exact Nat.beq_refl _]
    exact e1
   ·cases e
 ·cases e

theorem entries_ok (a:HR H h) {r:Nat} {x:List Entry×Nat} (e:hentries h r = some x):entriesOf (H.objs.get r) = some x:=by
 unfold hentries at e
 split at e
 ·rename_i es c hr
  obtain ⟨ob,h1,h2⟩:=a.at_ r _ hr
  cases ob <;> simp only [ORep] at h2
  obtain ⟨rfl,rfl⟩:=h2
  rw [h1]; exact e
 ·cases e

theorem hmapOf_ok (a:HR H h) {m:Value} {x:List Entry×Nat} (e:hmapOf h m = some x):mapOf H m = some x:=by
 unfold hmapOf at e
 split at e
 ·exact e
 ·exact entries_ok a e
 ·cases e

theorem lookIn_none (kt et:TypeId) (k:Value) (ok:Bool):lookIn E kt et k ok none = none:=by
 unfold lookIn; split <;> rfl

theorem hlookup_ok (a:HR H h) {t:TypeId} {m k:Value} {ok:Bool} {v:Value} (e:hlookup E h t m k ok = some v):aLookup E H t m k ok = some v:=by
 unfold hlookup at e
 unfold aLookup
 cases hi:E.ty t with
 | none=>rw [hi] at e; cases e
 | some i =>
  rw [hi] at e
  dsimp only at e ⊢
  split at e
  ·rename_i kt et hd
   rw [hd]
   dsimp only
   cases hm:hmapOf h m with
   | none=>rw [hm,lookIn_none] at e; cases e
   | some x=>rw [hm] at e; rw [hmapOf_ok a hm]; exact e
  ·cases e

theorem hupdateAt_ok (a:HR H h) {kt:TypeId} {r:Nat} {k v:Value} {h':Hp} (e:hupdateAt E h kt r k v (hentries h r) = some h'):∃ H',updateAt E H kt r k v (entriesOf (H.objs.get r)) = some H'∧HR H' h':=by
 unfold hupdateAt at e
 unfold updateAt
 split at e
 ·cases e
 ·rename_i hk
  split at e
  ·cases e
  ·rename_i es c hes
   rw [entries_ok a hes,hk]
   dsimp only
   unfold hupdated at e
   unfold updated
   split at e
   ·cases e
   ·rename_i hf
    rw [hf]
    dsimp only
    split at e
    ·rename_i hs
     cases e
     rw [hs]
     exact ⟨_,rfl,a.set r (ob:=.map _ _) ⟨rfl,rfl⟩⟩
    ·cases e
   ·rename_i hf
    rw [hf]
    cases e
    exact ⟨_,rfl,a.set r (ob:=.map _ _) ⟨rfl,rfl⟩⟩

theorem hupdate_ok (a:HR H h) {t:TypeId} {m k v:Value} {h':Hp} (e:hupdate E h t m k v = some h'):∃ H',aUpdate E H t m k v = some H'∧HR H' h':=by
 unfold hupdate at e
 unfold aUpdate
 split at e
 ·cases e
 ·rename_i i hi
  rw [hi]
  dsimp only
  split at e
  ·rename_i hd
   rw [hd]
   dsimp only
   split at e
   ·exact hupdateAt_ok a e
   ·cases e
  ·cases e

theorem hentryAt_ok (a:HR H h) (kt et:TypeId) (r:Nat) (k:Value):Fits (entryAt E H kt et r k (entriesOf (H.objs.get r))) (hentryAt E h kt et r k (hentries h r)):=by
 unfold hentryAt entryAt
 cases hk:keyOk E kt k with
 | false=>trivial
 | true =>
  dsimp only
  cases hes:hentries h r with
  | none=>trivial
  | some x =>
   obtain ⟨es,c⟩:=x
   rw [entries_ok a hes]
   dsimp only
   cases hei:E.ty et with
   | none=>trivial
   | some ei =>
    dsimp only
    unfold hentered entered
    cases hf:findKey E.prog kt k es 0 with
    | none=>trivial
    | some y =>
     cases y with
     | none =>
      dsimp only
      cases ei.zero with
      | none=>trivial
      | some z=>exact ⟨_,rfl,a.set r (ob:=.map _ _) ⟨rfl,rfl⟩⟩
     | some z =>
      obtain ⟨i,k',v,b⟩:=z
      dsimp only
      cases Instr.sameBits 10000 k' k with
      | true=>exact ⟨_,rfl,a.set r (ob:=.map _ _) ⟨rfl,rfl⟩⟩
      | false=>trivial

theorem hentry_ok (a:HR H h) (t:TypeId) (m k:Value):Fits (aEntry E H t m k) (hentry E h t m k):=by
 unfold hentry aEntry
 cases hi:E.ty t with
 | none=>trivial
 | some i =>
  dsimp only
  cases i.desc with
  | map kt et =>
   dsimp only
   cases m with
   | map r =>
    cases r with
    | none=>trivial
    | some r=>exact hentryAt_ok a kt et r k
   | _=>trivial
  | _=>trivial

theorem hentryStore_ok (a:HR H h) {m s v:Value} {h':Hp} (e:hentryStore h m s v = some h'):∃ H',aEntryStore H m s v = some H'∧HR H' h':=by
 unfold hentryStore at e
 split at e
 ·rename_i r
  unfold hentryStored at e
  cases hes:hentries h r with
  | none=>rw [hes] at e; cases e
  | some x =>
   obtain ⟨es,c⟩:=x
   rw [hes] at e
   show ∃ H',entryStored H r s v (entriesOf (H.objs.get r)) = some H'∧_
   rw [entries_ok a hes]
   unfold entryStored
   dsimp only at e ⊢
   split at e
   ·unfold hbornSet at e
    dsimp only
    split at e
    ·rename_i hb
     cases e
     rw [hb]
     exact ⟨_,rfl,a.set r (ob:=.map _ _) ⟨rfl,rfl⟩⟩
    ·cases e
   ·cases e
 ·cases e

theorem helems_ok (a:HR H h) {size n:Nat} {v:Value} {l:List Value} (e:helems h size n v = some l):elems H size n v = some l:=by
 unfold helems at e
 split at e
 ·rename_i r o sp l' c'
  show elemsAt H r o (Nat.mul n size) sp = _
  split at e
  ·split at e
   ·rename_i hz
    cases e
    unfold elemsAt
    rw [show Nat.mul n size = 0 from hz]
    rfl
   ·cases e
  ·rename_i hne
   unfold elemsAt
   split
   ·exact absurd rfl hne
   ·exact a.load e
 ·exact e
 ·exact e
 ·cases e

theorem hmoved_ok (a:HR H h) {base:Option Addr} {e sc size:Nat} {h':Hp} (k:hmoved h base e sc size = some h'):∃ H',moved H base e sc size = some H'∧HR H' h':=by
 unfold hmoved at k
 unfold moved
 split at k
 ·cases k; exact ⟨H,rfl,a⟩
 ·rename_i r o
  dsimp only
  split at k
  ·rename_i e' x cs hr
   obtain ⟨ob,h1,h2⟩:=a.at_ r _ hr
   cases ob <;> simp only [ORep] at h2
   rename_i e'' n x' cells
   obtain ⟨q1,q2,q3,q4⟩:=h2
   subst q1 q2
   rw [h1]
   unfold movedRow
   split at k
   ·cases k; exact ⟨H,rfl,a⟩
   ·split at k
    ·rename_i hc
     cases k
     refine ⟨H.set r .dead,?_,a.set r trivial⟩
     dsimp only
     rw [show (Nat.beq e e'' && Nat.ble (Nat.add o (Nat.mul sc size)) n) = true from by
      rw [Bool.and_eq_true]
      exact ⟨by rw [hc.1]; exact Nat.beq_refl _,by rw [Nat.ble_eq,← q3]; exact hc.2⟩]
    ·cases k
  ·cases k
 ·cases k; exact ⟨H,rfl,a⟩

theorem hfits_ok (a:HR H h) {ei:TI} {base:Option Addr} {sl sc l:Nat} {new:List Value}:Fits (appendFits H ei base sl sc l new) (hfits h ei base sl sc l new):=by
 unfold hfits appendFits
 cases base with
 | none =>
  dsimp only
  cases new with
  | nil=>exact ⟨H,rfl,a⟩
  | cons=>trivial
 | some b =>
  obtain ⟨r,o,s⟩:=b
  dsimp only
  cases hs:storeAt h r (o + sl * ei.size) new with
  | none=>trivial
  | some h' =>
   obtain ⟨H',e1,e2⟩:=a.store hs
   rw [show Nat.add o (Nat.mul sl ei.size) = o + sl * ei.size from rfl,e1]
   exact ⟨H',rfl,e2⟩

theorem hgrows_ok (a:HR H h) {e:TypeId} {ei:TI} {base:Option Addr} {sc n l:Nat} {new:List Value} {x y:Option (List Value)} (hxy:∀ l,y = some l→x = some l):Fits (appendGrows H e ei base sc n l new x) (hgrows h e ei base sc n l new y):=by
 unfold hgrows
 cases y with
 | none=>trivial
 | some old =>
  rw [hxy _ rfl]
  unfold appendGrows
  dsimp only
  cases smallCells ei n l new && Nat.ble 1 ei.size with
  | false=>trivial
  | true =>
   dsimp only
   unfold hgrown grown
   cases hm:hmoved h base e sc ei.size with
   | none=>trivial
   | some h' =>
    obtain ⟨H',e1,e2⟩:=hmoved_ok a hm
    rw [e1]
    exact fits_laid (f:=fun r=>slc r 0 l l) e2 (ORep.rowOf _ _ _)

theorem happendTo_ok (a:HR H h) {e:TypeId} {ei:TI} {base:Option Addr} {sl sc n:Nat} {x y:Option (List Value)} (hxy:∀ l,y = some l→x = some l):Fits (appendTo H e ei base sl sc n x) (happendTo h e ei base sl sc n y):=by
 unfold happendTo
 cases y with
 | none=>trivial
 | some new =>
  rw [hxy _ rfl]
  unfold appendTo
  dsimp only
  rw [forceNat_id]
  have hadd:Nat.add sl n = sl + n:=rfl
  rw [hadd]
  by_cases hle:sl + n≤sc
  ·rw [if_pos hle,show Nat.ble (sl + n) sc = true from by rw [Nat.ble_eq]; exact hle]
   exact hfits_ok a
  ·rw [if_neg hle,show Nat.ble (sl + n) sc = false from by rw [← Bool.not_eq_true,Nat.ble_eq]; exact hle]
   exact hgrows_ok a fun l hl=>helems_ok a hl

theorem happendMade_ok (a:HR H h) {e:TypeId} {ei:TI} (s:Value) (n:Option Nat):Fits (appendMade H e ei s n) (happendMade h e ei s n):=by
 unfold happendMade appendMade
 cases n with
 | none=>trivial
 | some n =>
  dsimp only
  cases Nat.ble (Nat.mul n ei.bytes) 1073741824 with
  | false=>trivial
  | true =>
   dsimp only
   cases s with
   | slice base sl sc =>
    dsimp only
    cases voidBase base with
    | true=>trivial
    | false=>exact happendTo_ok a fun l hl=>hl
   | _=>trivial

theorem happendArgs_ok (a:HR H h) (s x:Value) (xt:TypeId) (se:Option (TypeId×TI)):Fits (appendArgs E H s x xt se) (happendArgs E h s x xt se):=by
 unfold happendArgs appendArgs
 cases se with
 | none=>trivial
 | some q =>
  obtain ⟨e,ei⟩:=q
  dsimp only
  cases E.ty xt with
  | none=>trivial
  | some xi =>
   dsimp only
   cases isIntDesc xi.desc with
   | true=>exact happendMade_ok a _ _
   | false =>
    dsimp only
    cases lenOf x with
    | none=>trivial
    | some n =>
     dsimp only
     cases s with
     | slice base sl sc =>
      dsimp only
      cases voidBase base with
      | true=>trivial
      | false=>exact happendTo_ok a fun l hl=>helems_ok a hl
     | _=>trivial

theorem happend_ok (a:HR H h) (ts:List TypeId) (as:List Value):Fits (aAppend E H ts as) (happend E h ts as):=by
 unfold happend
 split
 ·split
  ·exact happendArgs_ok a _ _ _ _
  ·trivial
 ·trivial

theorem hcopyInto_ok (a:HR H h) {base:Option Addr} {n:Nat} {x y:Option (List Value)} (hxy:∀ l,y = some l→x = some l):Fits (copyInto H base n x) (hcopyInto h base n y):=by
 unfold hcopyInto
 cases y with
 | none=>trivial
 | some new =>
  rw [hxy _ rfl]
  unfold copyInto
  dsimp only
  cases base with
  | none=>exact ⟨H,rfl,a⟩
  | some b =>
   obtain ⟨r,o,sp⟩:=b
   dsimp only
   cases voidSp sp with
   | true=>trivial
   | false =>
    dsimp only
    cases hs:storeAt h r o new with
    | none=>trivial
    | some h' =>
     obtain ⟨H',e1,e2⟩:=a.store hs
     rw [e1]
     exact ⟨H',rfl,e2⟩

theorem hcopyArgs_ok (a:HR H h) (s x:Value) (se:Option (TypeId×TI)):Fits (copyArgs H s x se) (hcopyArgs h s x se):=by
 unfold hcopyArgs copyArgs
 cases se with
 | none=>trivial
 | some q =>
  obtain ⟨e,ei⟩:=q
  dsimp only
  cases s with
  | slice base dl c =>
   dsimp only
   cases lenOf x with
   | none=>trivial
   | some sl =>
    dsimp only
    rw [forceNat_id]
    exact hcopyInto_ok a fun l hl=>helems_ok a hl
  | _=>trivial

theorem hcopy_ok (a:HR H h) (ts:List TypeId) (as:List Value):Fits (aCopy E H ts as) (hcopy E h ts as):=by
 unfold hcopy
 split
 ·split
  ·exact hcopyArgs_ok a _ _ _
  ·trivial
 ·trivial

theorem lenTI_any {x:Value} {i:TI} (hne:∀ k e,i.desc≠.map k e) (H:Heap):lenTI E H x i = lenTI E D0 x i:=by
 unfold lenTI
 split <;> first | rfl | (rename_i k e hd; exact absurd hd (hne _ _))

theorem hlen_ok (a:HR H h) {ts:List TypeId} {as:List Value} {v:Value} (e:hlen E h ts as = some v):aLen E H ts as = some v:=by
 unfold hlen at e
 unfold aLen
 split at e
 ·dsimp only
  split at e
  ·dsimp only
   split at e
   ·cases e
   ·rename_i i hi
    rw [hi]
    dsimp only
    unfold hlenTI at e
    split at e
    ·rename_i k el hd
     unfold lenTI
     rw [hd]
     dsimp only
     cases hm:hmapOf h _ with
     | none=>rw [hm] at e; cases e
     | some y=>rw [hm] at e; rw [hmapOf_ok a hm]; exact e
    ·rename_i hne
     rw [lenTI_any (fun k el hd=>hne _ _ hd)]
     exact e
  ·cases e
 ·cases e

theorem hcapTI_ok (a:HR H h) {x:Value} {i:TI} {v:Value} (e:hcapTI h x i = some v):capTI H x i = some v:=by
 unfold hcapTI at e
 split at e
 ·rename_i hd
  split at e
  ·unfold capTI; rw [hd]; exact e
  ·rename_i r o l n
   unfold capTI
   rw [hd]
   show capOf n (H.objs.get r) = some v
   unfold hcapOf at e
   split at e
   ·rename_i hr
    obtain ⟨ob,h1,h2⟩:=a.at_ _ _ hr
    cases ob <;> simp only [ORep] at h2
    obtain ⟨q1,q2,q3,q4⟩:=h2
    subst q2
    rw [h1]
    exact e
   ·cases e
  ·unfold capTI; rw [hd]; exact e
  ·cases e
 ·cases e

theorem hcap_ok (a:HR H h) {ts:List TypeId} {as:List Value} {v:Value} (e:hcap E h ts as = some v):aCap E H ts as = some v:=by
 cases ts with
 | nil=>cases e
 | cons t ts =>
  cases as with
  | nil=>cases e
  | cons x as =>
   unfold hcap at e
   unfold aCap
   dsimp only at e ⊢
   cases hi:E.ty t with
   | none=>rw [hi] at e; cases e
   | some i=>rw [hi] at e; exact hcapTI_ok a e

theorem hbuiltin_ok (a:HR H h) (b:Builtin) (ts:Array TypeId) (type:TypeId) (as:List Value):Fits (aBuiltin E H b ts type as) (hbuiltin E h b ts type as):=by
 cases b <;> simp only [hbuiltin,aBuiltin] <;> first | trivial | skip
 ·exact happend_ok a _ _
 ·exact fits_hval a fun v e=>hcap_ok a e
 ·exact hcopy_ok a _ _
 ·exact fits_hval a fun v e=>hlen_ok a e
 ·exact fits_retag a (F:=fun H=>onData H as _) fun H=>onData_tag _ _ _
 ·exact fits_retag a (F:=fun H=>onData H as _) fun H=>onData_tag _ _ _

theorem hslice_ok (a:HR H h) {v:Value} {lo hi mx:Option Value} {i:TI}:Fits (sliceTI E H v lo hi mx i) (hslice E h v lo hi mx i):=by
 have hcl:∀ (size r o:Nat) (b:Option (Nat×Nat×Nat)) (H:Heap),cutLim H size r o b = retag (cutLim D0 size r o b) H:=fun size r o b H=>by cases b <;> rfl
 have hce:∀ (size r o:Nat) (b:Option (Nat×Nat×Nat)) (H:Heap),cutExact H size r o b = retag (cutExact D0 size r o b) H:=fun size r o b H=>by cases b <;> rfl
 have hco:∀ (size r o:Nat) (b:Option (Nat×Nat×Nat)) (H:Heap),cutOpen H size r o b = retag (cutOpen D0 size r o b) H:=fun size r o b H=>by
  cases b with
  | none=>rfl
  | some b =>
   obtain ⟨l,hh,m⟩:=b
   unfold cutOpen
   dsimp only
   cases Nat.ble (Nat.succ l) m with
   | true=>rfl
   | false =>
    unfold cutAll
    dsimp only
    cases Nat.beq (Nat.sub hh l) 0 && Nat.beq (Nat.sub m l) 0 <;> rfl
 have hcof:∀ (size r o:Nat) (nm:Bool) (b:Option (Nat×Nat×Nat)) (H:Heap),cutOf H size r o nm b = retag (cutOf D0 size r o nm b) H:=fun size r o nm b H=>by
  cases nm
  ·exact hcl _ _ _ _ _
  ·exact hco _ _ _ _ _
 have hcn:∀ (b:Option (Nat×Nat×Nat)) (H:Heap),cutNil H b = retag (cutNil D0 b) H:=fun b H=>by cases b <;> rfl
 have hcv:∀ (nm:Bool) (b:Option (Nat×Nat×Nat)) (H:Heap),cutVoid H nm b = retag (cutVoid D0 nm b) H:=fun nm b H=>by cases nm <;> cases b <;> rfl
 have hcs:∀ (s:ByteArray) (m:Option Value) (b:Option (Nat×Nat×Nat)) (H:Heap),cutString H s m b = retag (cutString D0 s m b) H:=fun s m b H=>by
  unfold cutString
  cases m with
  | some _=>rfl
  | none=>cases b <;> rfl
 have gen:(∀ H,sliceTI E H v lo hi mx i = retag (sliceTI E D0 v lo hi mx i) H)→Fits (sliceTI E H v lo hi mx i) (lift (sliceTI E D0 v lo hi mx i) h):=fun e=>fits_retag a (F:=fun H=>sliceTI E H v lo hi mx i) e
 unfold hslice
 cases hd:i.desc with
 | slice elem =>
  dsimp only
  cases he:E.ty elem with
  | none=>trivial
  | some ei =>
   dsimp only
   cases v with
   | slice b len cap =>
    cases b with
    | none =>
     refine gen fun H=>?_
     unfold sliceTI; rw [hd]; dsimp only; rw [he]; exact hcn _ _
    | some b =>
     obtain ⟨r,o,sp⟩:=b
     cases sp with
     | none =>
      dsimp only
      unfold sliceTI; rw [hd]; dsimp only; rw [he]; dsimp only
      unfold hcutObj
      cases hr:h.at r with
      | none=>trivial
      | some ob =>
       obtain ⟨o2,h1,h2⟩:=a.at_ r _ hr
       rw [h1]
       unfold cutObj
       cases ob <;> dsimp only <;> first | trivial | skip
       ·cases o2 <;> simp only [ORep] at h2
        obtain ⟨q1,q2,q3,q4⟩:=h2
        subst q2
        rename_i x _ _ _ _
        dsimp only
        split
        ·exact fits_retag a (F:=fun H=>cutExact H ei.size r o _) fun H=>hce _ _ _ _ _
        ·exact fits_retag a (F:=fun H=>cutOf H ei.size r o _ _) fun H=>hcof _ _ _ _ _ _
       ·cases o2 <;> simp only [ORep] at h2
        exact fits_retag a (F:=fun H=>cutOf H ei.size r o _ _) fun H=>hcof _ _ _ _ _ _
     | some sp =>
      refine gen fun H=>?_
      unfold sliceTI; rw [hd]; dsimp only; rw [he]; dsimp only
      split
      ·rename_i hx; cases hx
      ·rename_i hx; cases hx
      ·exact hcl _ _ _ _ _
      ·exact hcv _ _ _
      ·rfl
   | _ =>
    refine gen fun H=>?_
    unfold sliceTI; rw [hd]; dsimp only; rw [he]; rfl
 | string =>
  refine gen fun H=>?_
  unfold sliceTI; rw [hd]; dsimp only
  cases v with
  | string s=>exact hcs _ _ _ _
  | _=>rfl
 | array n elem =>
  refine gen fun H=>?_
  unfold sliceTI; rw [hd]; dsimp only
  cases E.ty elem with
  | none=>rfl
  | some ei =>
   dsimp only
   split
   ·exact hcl _ _ _ _ _
   ·rfl
 | _ =>
  refine gen fun H=>?_
  unfold sliceTI; rw [hd]; rfl

theorem hslit_ok (a:HR H h) {t:TypeId} {len:Nat} {ps:List (Nat×Value)}:Fits (laidBy (buildSliceE len ps (sliceElem E t)) H) (hslit h len (slitCells E t len ps)):=by
 unfold slitCells buildSliceE
 cases sliceElem E t with
 | none=>trivial
 | some q =>
  obtain ⟨e,ei⟩:=q
  dsimp only
  cases zeroCells ei with
  | none=>trivial
  | some z =>
   dsimp only
   unfold buildSliceZ
   cases Nat.ble (Nat.mul len ei.size) 10000 && Nat.beq z.length ei.size with
   | false=>trivial
   | true =>
    dsimp only
    unfold sliceIs
    cases fill (arrayPlace ei.size) (times z len) ps with
    | none=>trivial
    | some cells=>exact fits_laid (f:=fun r=>slc r 0 len len) a (ORep.rowOf _ _ _)

theorem hmake_ok (a:HR H h) {l c:Option Nat} {se:Option (TypeId×TI)}:Fits (laidBy (makeSliceE l c se) H) (hmake h (hmakeCells l c se)):=by
 unfold hmakeCells makeSliceE
 cases se with
 | none=>trivial
 | some q =>
  obtain ⟨e,ei⟩:=q
  dsimp only
  cases zeroCells ei with
  | none=>trivial
  | some z =>
   dsimp only
   cases l with
   | none=>trivial
   | some l =>
    dsimp only
    cases c with
    | none=>trivial
    | some c =>
     dsimp only
     unfold makeSliceZ
     cases Nat.ble l c && Nat.ble (Nat.mul ei.bytes c) 1073741824 && Nat.beq z.length ei.size with
     | false=>trivial
     | true=>exact fits_laid (f:=fun r=>slc r 0 l c) a (ORep.rowOf _ _ _)

theorem hmapNew_ok (a:HR H h) {x:New} (hx:∀ y,x = some y→y = (mapAt,.map [] 0)):Fits (laidBy x H) (hmapNew x h):=by
 cases x with
 | none=>trivial
 | some y=>rw [hx y rfl]; exact fits_laid (f:=mapAt) a ⟨rfl,rfl⟩

theorem hrange_ok (a:HR H h) {i:Option TI} {v:Value}:Fits (laidBy (rangeOf i v) H) (hrange h i v):=by
 unfold hrange rangeOf
 cases i with
 | none=>trivial
 | some i =>
  dsimp only
  cases i.desc <;> dsimp only <;> first | trivial | skip
  cases v <;> dsimp only <;> first | trivial | skip
  exact fits_laid (f:=ptr0) a ⟨rfl,rfl⟩

theorem hnextIn_ok (a:HR H h) {r:Nat} {s:ByteArray} {pos:Nat}:Fits (nextIn H r (some (.iter s pos))) (if pos < s.size then hnextAt h r s pos (Utf8.decode s pos) else .val (.tuple #[.bool false]) h):=by
 unfold nextIn
 dsimp only
 by_cases hlt:pos < s.size
 ·rw [if_pos hlt,show Nat.ble (Nat.succ pos) s.size = true from by rw [Nat.ble_eq]; exact hlt]
  dsimp only
  unfold nextAt hnextAt
  cases hp:Utf8.decode s pos with
  | mk c w =>
   dsimp only
   rw [forceNat_id,forceNat_id]
   exact ⟨_,rfl,a.set r (ob:=.iter _ _) ⟨rfl,rfl⟩⟩
 ·rw [if_neg hlt,show Nat.ble (Nat.succ pos) s.size = false from by rw [← Bool.not_eq_true,Nat.ble_eq]; exact hlt]
  exact ⟨_,rfl,a⟩

theorem hnext_ok (a:HR H h) {b:Bool} {v:Value}:Fits (nextOf H b v) (hnext h b v):=by
 unfold hnext
 cases b with
 | false=>trivial
 | true =>
  dsimp only
  split
  ·rename_i r
   show Fits (nextIn H r (H.objs.get r)) _
   cases hr:h.at r with
   | none=>trivial
   | some ob =>
    obtain ⟨o2,h1,h2⟩:=a.at_ r _ hr
    cases ob <;> dsimp only <;> first | trivial | skip
    cases o2 <;> simp only [ORep] at h2
    obtain ⟨rfl,rfl⟩:=h2
    rw [h1]
    exact hnextIn_ok a
  ·trivial

theorem hconvert_ok (a:HR H h) {src dst:TypeId} {v:Value}:Fits (converted E H src dst v) (hconvert E h src dst v):=by
 unfold hconvert converted
 cases isData 1 v with
 | true=>exact fits_hval a fun v e=>e
 | false =>
  dsimp only
  unfold hconvSlice convSlice
  cases v with
  | slice b len cap =>
   cases b with
   | none=>trivial
   | some b =>
    obtain ⟨r,o,sp⟩:=b
    dsimp only
    cases isBytes E src && isStr E dst with
    | false=>trivial
    | true =>
     dsimp only
     cases hb:helems h 1 len (.slice (some ⟨r,o,sp⟩) len len) with
     | none=>trivial
     | some l =>
      have hl:=helems_ok a hb
      have hl':elemsAt H r o (Nat.mul len 1) sp = some l:=hl
      rw [show Nat.mul len 1 = len from Nat.mul_one len] at hl'
      rw [hl']
      unfold textOf
      cases bytesIn (some l) with
      | none=>trivial
      | some bs=>exact ⟨_,rfl,a⟩
  | _=>trivial

theorem run_fits (hf:FR ρ φ) (a:HR H h) (op:Op) (type:TypeId):Fits (aop op E ρ H type) (runφ E op type φ h):=by
 cases op with
 | move x=>exact ⟨H,by show ARes.val (Rx.eval ρ x) H = _; rw [hf.eval],a⟩
 | assign x=>exact ⟨H,by show ARes.val (Rx.eval ρ x) H = _; rw [hf.eval],a⟩
 | pick c x y =>
  show Fits (picked ρ H x y (Rx.eval ρ c)) _
  rw [hf.eval]
  show Fits _ (match evφ φ c with | .bool true=>.val (evφ φ x) h | .bool false=>.val (evφ φ y) h | _=>.fail)
  cases evφ φ c with
  | bool b =>
   cases b
   ·exact ⟨H,by rw [← hf.eval]; rfl,a⟩
   ·exact ⟨H,by rw [← hf.eval]; rfl,a⟩
  | _=>trivial
 | alloc t =>
  show Fits (laidBy (allocated t (zeroOf (E.ty t))) H) (hbox h t (newCells E t))
  unfold newCells allocated
  cases zeroOf (E.ty t) with
  | none=>trivial
  | some z =>
   dsimp only
   cases cellsOf z with
   | none=>trivial
   | some cells=>exact fits_laid (f:=ptr0) a (ORep.rowOf _ _ _)
 | box t x =>
  show Fits (laidBy (boxed t (cellsOf (Rx.eval ρ x))) H) (hbox h t (cellsOf (evφ φ x)))
  rw [hf.eval]
  cases cellsOf (evφ φ x) with
  | none=>trivial
  | some cells=>exact fits_laid (f:=ptr0) a (ORep.rowOf _ _ _)
 | build t ps =>
  show Fits (match E.ty t with | some i=>buildZ E H (Rx.evalParts ρ ps.toList) i | none=>.fail) (hbuild E h t (evPφ φ ps.toList))
  rw [hf.evalParts]
  unfold hbuild
  cases E.ty t with
  | none=>trivial
  | some i=>exact fits_retag a (F:=fun H=>buildZ E H _ i) fun H=>buildZ_tag _ _ _
 | buildSlice t len ps =>
  show Fits (laidBy (buildSliceE len (Rx.evalParts ρ ps.toList) (sliceElem E t)) H) _
  rw [hf.evalParts]
  exact hslit_ok a
 | insert t m k x =>
  show Fits (ofHeap (aUpdate E H t (Rx.eval ρ m) (Rx.eval ρ k) (Rx.eval ρ x))) _
  rw [hf.eval,hf.eval,hf.eval]
  exact fits_hmem fun h' e=>hupdate_ok a e
 | load t x =>
  show Fits (atPtr (Rx.eval ρ x) fun r o=>ofVal H (loadVar E H t r o)) _
  rw [hf.eval]
  exact fits_ptr fun r o=>fits_hval a fun v e=>hload_ok a e
 | store t x y =>
  show Fits (atPtr (Rx.eval ρ x) fun r o=>ofHeap (storeVar E H t r o (Rx.eval ρ y))) _
  rw [hf.eval,hf.eval]
  exact fits_ptr fun r o=>fits_hmem fun h' e=>hstore_ok a e
 | nilCheck x =>
  show Fits (nilChecked H (Rx.eval ρ x)) _
  rw [hf.eval]
  exact fits_retag a (F:=fun H=>nilChecked H _) fun H=>nilChecked_tag _ _
 | binOp op t x y yt =>
  show Fits (ofVal H (aBin E op t x y (Rx.eval ρ x) (Rx.eval ρ y))) _
  rw [hf.eval,hf.eval]
  exact fits_hval a fun v e=>e
 | unOp op t x =>
  show Fits (onOne H (Rx.eval ρ x) fun _=>pureRun E.prog (Op.unary op (Rx.eval ρ x))) _
  rw [hf.eval]
  exact fits_retag a (F:=fun H=>onOne H _ _) fun H=>onOne_tag _ _ _
 | convert src dst x =>
  show Fits (converted E H src dst (Rx.eval ρ x)) _
  rw [hf.eval]
  exact hconvert_ok a
 | sliceToArrayPointer t x =>
  show Fits (toArrayTI H (Rx.eval ρ x) (E.ty t)) _
  rw [hf.eval]
  exact fits_retag a (F:=fun H=>toArrayTI H _ _) fun H=>toArrayTI_tag _ _ _
 | makeInterface t x =>
  show Fits (ifaceOf H t (Rx.eval ρ x) (E.ty t)) _
  rw [hf.eval]
  exact fits_retag a (F:=fun H=>ifaceOf H t _ _) fun H=>ifaceOf_tag _ _ _ _
 | makeFunc fn x y =>
  show Fits (funcOf H fn (Rx.evals ρ x.toList) (Rx.evals ρ y.toList)) _
  rw [hf.evals,hf.evals]
  exact fits_retag a (F:=fun H=>funcOf H fn _ _) fun H=>funcOf_tag _ _ _ _
 | makeMap t r =>
  show Fits (laidBy (mapNew E ρ t r) H) _
  have hx:mapNew E ρ t r = (match r with | none=>newMap | some x=>mapHint (E.ty t) (evφ φ x)):=by
   cases r with
   | none=>rfl
   | some x=>show mapHint (E.ty t) (Rx.eval ρ x) = _; rw [hf.eval]
  rw [hx]
  refine hmapNew_ok a fun y hy=>?_
  split at hy
  ·cases hy; rfl
  ·unfold mapHint at hy
   split at hy
   ·split at hy
    ·split at hy
     ·cases hy; rfl
     ·cases hy
    ·cases hy
   ·cases hy
 | makeSlice t l c =>
  show Fits (laidBy (makeSliceE (asNat 100000 (Rx.eval ρ l)) (asNat 100000 (Rx.eval ρ c)) (sliceElem E t)) H) _
  rw [hf.eval,hf.eval]
  exact hmake_ok a
 | slice t x lo hi mx =>
  show Fits (match E.ty t with | some i=>sliceTI E H (Rx.eval ρ x) (Rx.evalOpt ρ lo) (Rx.evalOpt ρ hi) (Rx.evalOpt ρ mx) i | none=>.fail) _
  rw [hf.eval,hf.evalOpt,hf.evalOpt,hf.evalOpt]
  simp only [runφ]
  cases E.ty t with
  | none=>trivial
  | some i=>exact hslice_ok a
 | fieldAddr t x f =>
  show Fits (fieldAddrF E H (Rx.eval ρ x) (fieldOf (E.ty t) f)) _
  rw [hf.eval]
  exact fits_retag a (F:=fun H=>fieldAddrF E H _ _) fun H=>fieldAddrF_tag _ _ _
 | field t x f =>
  show Fits (fieldF E H (Rx.eval ρ x) (fieldOf (E.ty t) f)) _
  rw [hf.eval]
  exact fits_retag a (F:=fun H=>fieldF E H _ _) fun H=>fieldF_tag _ _ _
 | indexAddr t x j =>
  show Fits (indexAddrTI E H (Rx.eval ρ x) (Rx.eval ρ j) (E.ty t)) _
  rw [hf.eval,hf.eval]
  exact fits_retag a (F:=fun H=>indexAddrTI E H _ _ _) fun H=>indexAddrTI_tag _ _ _ _
 | index t x j =>
  show Fits (indexTI E H (Rx.eval ρ x) (Rx.eval ρ j) (E.ty t)) _
  rw [hf.eval,hf.eval]
  exact fits_retag a (F:=fun H=>indexTI E H _ _ _) fun H=>indexTI_tag _ _ _ _
 | lookup t x j ok =>
  show Fits (ofVal H (aLookup E H t (Rx.eval ρ x) (Rx.eval ρ j) ok)) _
  rw [hf.eval,hf.eval]
  exact fits_hval a fun v e=>hlookup_ok a e
 | mapUpdate t m k x =>
  show Fits (ofHeap (aUpdate E H t (Rx.eval ρ m) (Rx.eval ρ k) (Rx.eval ρ x))) _
  rw [hf.eval,hf.eval,hf.eval]
  exact fits_hmem fun h' e=>hupdate_ok a e
 | mapEntry t m k =>
  show Fits (aEntry E H t (Rx.eval ρ m) (Rx.eval ρ k)) _
  rw [hf.eval,hf.eval]
  exact hentry_ok a _ _ _
 | entryStore t m s x =>
  show Fits (ofHeap (aEntryStore H (Rx.eval ρ m) (Rx.eval ρ s) (Rx.eval ρ x))) _
  rw [hf.eval,hf.eval,hf.eval]
  exact fits_hmem fun h' e=>hentryStore_ok a e
 | range t x =>
  show Fits (laidBy (rangeOf (E.ty t) (Rx.eval ρ x)) H) _
  rw [hf.eval]
  exact hrange_ok a
 | next x b =>
  show Fits (nextOf H b (Rx.eval ρ x)) _
  rw [hf.eval]
  exact hnext_ok a
 | extract x i =>
  show Fits (extracted H (Rx.eval ρ x) i) _
  rw [hf.eval]
  exact fits_retag a (F:=fun H=>extracted H _ _) fun H=>extracted_tag _ _ _
 | call c =>
  show Fits (callOp E ρ H type c.argTypes (Rx.evals ρ c.args.toList) c.callee) _
  rw [hf.evals]
  simp only [runφ]
  cases c.callee with
  | value f =>
   show Fits (aCall E H (Rx.eval ρ f) _) _
   rw [hf.eval]
   exact fits_retag a (F:=fun H=>aCall E H _ _) fun H=>aCall_tag _ _ _
  | builtin b=>exact hbuiltin_ok a b _ _ _
  | invoke _ _=>trivial
 | _=>trivial

end
end Go.Rx
