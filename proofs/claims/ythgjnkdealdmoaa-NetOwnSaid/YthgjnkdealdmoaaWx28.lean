/- Contracts by what is to be shown of each step: a part of the engine. -/
import Derived.Test.YthgjnkdealdmoaaWx27
import Derived.Test.YthgjnkdealdmoaaWx21
import Derived.Test.YthgjnkdealdmoaaWx13
set_option linter.unusedVariables false
set_option linter.unusedSectionVars false
set_option linter.unusedSimpArgs false
namespace Go.Rx
open Go.RowKit
noncomputable section

/-! Room that is made at once (append of noughts), and appending into it. -/

theorem natUpto_of {m n:Nat} (h:n≤m):natUpto m (n:Int) = some n:=by
 show (match Nat.ble n m with | true=>some n | false=>none) = _
 rw [show Nat.ble n m = true from by rw [Nat.ble_eq]; exact h]

theorem all_times {z:List Value} (h:z.all oneCell = true):∀ n,(times z n).all oneCell = true
 | 0=>rfl
 | n + 1=>by rw [times,List.all_append,h,all_times h n]; rfl

theorem times_len (z:List Value):∀ n,(times z n).length = n * z.length
 | 0=>by simp [times]
 | n + 1=>by simp [times,times_len z n,Nat.succ_mul]; omega

theorem raw_made {E:Env} {st xt ty e:TypeId} {ei xi:TI} (hst:sliceElem E st = some (e,ei)) (hxt:E.ty xt = some xi) (hint:isIntDesc xi.desc = true) {φ:Frame} {h:Hp} {x y:Operand} {kk:IntKind} {n:Nat}
  (hx:evφ φ x = .slice none 0 0) (hy:evφ φ y = .int kk (n:Int)) (hn:n≤100000) (hn0:n≠0) {z:List Value} (hz:zeroCells ei = some z) (hzl:z.length = ei.size) (hs1:1≤ei.size) (hone:z.all oneCell = true)
  (hb:n * ei.bytes≤1073741824) {Q:Value→Hp→Prop} (q:Q (slc h.next 0 n n) (h.lay (.row e false (times z n)))):MapP E (.raw (.call ⟨.builtin .append,⟨[x,y]⟩,⟨[st,xt]⟩⟩) ty) φ h Q:=by
 refine MapP.mk (resP_val (v:=slc h.next 0 n n) (h:=h.lay (.row e false (times z n))) ?_ q)
 show happendArgs E h (evφ φ x) (evφ φ y) xt (sliceElem E st) = _
 rw [hst,hx,hy]
 unfold happendArgs
 dsimp only
 rw [hxt]
 dsimp only
 rw [hint]
 dsimp only
 unfold asNat
 dsimp only
 rw [natUpto_of hn]
 unfold happendMade
 dsimp only
 rw [show Nat.ble (Nat.mul n ei.bytes) 1073741824 = true from by rw [Nat.ble_eq]; exact hb]
 dsimp only
 rw [show voidBase none = false from rfl]
 dsimp only
 unfold zeroElems
 rw [hz]
 dsimp only
 rw [show Nat.beq z.length ei.size = true from by rw [Nat.beq_eq]; exact hzl]
 unfold happendTo
 dsimp only
 rw [if_neg (by omega)]
 unfold hgrows
 rw [show helems h ei.size 0 (.slice none 0 0) = some [] from rfl]
 dsimp only
 have hsm:smallCells ei n (0 + n) (times z n) = true:=by
  unfold smallCells zeroFits
  rw [hz]
  dsimp only
  have e1:Nat.mul (0 + n) ei.bytes = n * ei.bytes:=by rw [Nat.zero_add]; rfl
  have e2:Nat.mul n ei.size = n * ei.size:=rfl
  rw [e1,e2,all_times hone]
  simp only [Bool.and_eq_true,Nat.ble_eq,Nat.beq_eq]
  exact ⟨⟨⟨⟨hb,by omega⟩,trivial⟩,by rw [times_len,hzl]⟩,hzl⟩
 rw [hsm,show Nat.ble 1 ei.size = true from by rw [Nat.ble_eq]; exact hs1]
 unfold hmoved hgrown
 simp

theorem AppP.fits {E:Env} {h:Hp} {e s bytes r n m c:Nat} {x:Value} {K:Value→Hp→Prop} {new cs:List Value} {et:TypeId} {b:Bool} (hr:h.at r = some (.row et b cs)) (hx:ElemsC h s x m new) (hc:n + m≤c) (hcs:c * s≤cs.length)
  (k:K (slc r 0 (n + m) c) (h.set r (.row et b (over cs (n * s) new)))):AppP E h e s bytes (slc r 0 n c) x K:=by
 obtain ⟨h1,h2,h3,h4⟩:=hx
 unfold AppP happT slc
 dsimp only
 rw [show voidBase (some ⟨r,0,none⟩) = false from rfl]
 dsimp only
 rw [h1]
 dsimp only
 rw [h2]
 dsimp only
 rw [if_pos hc]
 unfold hfitsT
 dsimp only
 have hle:(n + m) * s≤c * s:=Nat.mul_le_mul_right _ hc
 rw [Nat.add_mul] at hle
 have e1:storeAt h r (0 + n * s) new = some (h.set r (.row et b (over cs (n * s) new))):=by
  unfold storeAt
  rw [hr]
  dsimp only
  rw [if_pos ⟨by omega,h4⟩,Nat.zero_add]
 rw [e1]
 exact k

end
end Go.Rx
