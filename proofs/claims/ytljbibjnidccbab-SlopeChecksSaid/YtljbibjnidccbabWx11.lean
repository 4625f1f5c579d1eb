/- Contracts by what is to be shown of each step: a part of the engine. -/
import Derived.Test.YtljbibjnidccbabWx10
import Derived.ChangeSlices
set_option linter.unusedVariables false
set_option linter.unusedSectionVars false
set_option linter.unusedSimpArgs false
namespace Go.Rx
open Go.RowKit Go.ChangeShapes
noncomputable section

/-! Calls with integers and slices of integers, as the caller holds them. -/

inductive SArg (W:World):Value→List Int→Prop
 | nil:SArg W (.slice none 0 0) []
 | row (b o c:Nat) (l:List Int) (hb:b < W.heap.size) (hc:l.length≤c) (h:∀ k,(hk:k < l.length)→W.cell? ⟨b,o + k,none⟩ = some (int l[k])):SArg W (.slice (some ⟨b,o,none⟩) l.length c) l

inductive PA where
 | i (n:Int)
 | s (v:Value) (l:List Int)
def PA.val:PA→Value
 | .i n=>int n
 | .s v _=>v
def PA.ok (W:World):PA→Prop
 | .i _=>True
 | .s v l=>SArg W v l
def PA.row:PA→List Value
 | .i _=>[]
 | .s _ l=>l.map int
def PA.info:PA→Option Info
 | .i _=>none
 | .s v _=>match v with
  | .slice (some a) n c=>some ⟨a.block,a.off,c - n⟩
  | _=>none
def places (ps:List PA):Places:=fun r=>(ps[r]?).bind PA.info
def LentI (h:Hp) (v:Value) (l:List Int):Prop:=(v = .slice none 0 0∧l = [])∨∃ r,v = slc r 0 l.length l.length∧h.at r = some (.lent (l.map int))
theorem LentI.ints {h:Hp} {v:Value} {l:List Int} (k:LentI h v l):Ints h v l:=by
 rcases k with ⟨rfl,rfl⟩ | ⟨r,rfl,hr⟩
 ·exact ⟨none,0,rfl,fun k hk=>by simp at hk⟩
 ·refine ⟨_,_,rfl,fun k hk=>⟨r,0,none,rfl,rfl,?_⟩⟩
  unfold cellAt
  rw [hr]
  simp [hk]
theorem LentI.ext {h h':Hp} {v:Value} {l:List Int} (g:Grows h h') (k:LentI h v l):LentI h' v l:=by
 rcases k with h0 | ⟨r,rfl,hr⟩
 ·exact .inl h0
 ·exact .inr ⟨r,rfl,g.at_ _ _ hr⟩
end
end Go.Rx
