/- Contracts by what is to be shown of each step: a part of the engine. -/
import Derived.Test.YtljbibjnidccbabWx14
import Derived.OpenShut
set_option linter.unusedVariables false
set_option linter.unusedSectionVars false
set_option linter.unusedSimpArgs false
namespace Go.Rx
open Go.RowKit Go.ChangeShapes
noncomputable section

/-! Calls with integers and slices of integers, or of arrays of integers, as the caller holds them. -/

inductive SArgC (W:World):Value→Nat→List Int→Prop
 | nil:SArgC W (.slice none 0 0) 0 []
 | row (b o n c:Nat) (l:List Int) (hb:b < W.heap.size) (hc:n≤c) (h:∀ k,(hk:k < l.length)→W.cell? ⟨b,o + k,none⟩ = some (int l[k])):SArgC W (.slice (some ⟨b,o,none⟩) n c) n l

theorem SArgC.of {W:World} {v:Value} {l:List Int} (h:SArg W v l):SArgC W v l.length l:=by
 cases h with
 | nil=>exact .nil
 | row b o c l hb hc h=>exact .row b o l.length c l hb hc h

inductive PB where
 | i (n:Int)
 | s (v:Value) (n:Nat) (l:List Int)
def PB.val:PB→Value
 | .i n=>int n
 | .s v _ _=>v
def PB.ok (W:World):PB→Prop
 | .i _=>True
 | .s v n l=>SArgC W v n l
def PB.row:PB→List Value
 | .i _=>[]
 | .s _ _ l=>l.map int
def PB.info:PB→Option Info
 | .i _=>none
 | .s v _ _=>match v with
  | .slice (some a) n c=>some ⟨a.block,a.off,c - n⟩
  | _=>none
def LentC (h:Hp) (v:Value) (n:Nat) (l:List Int):Prop:=(v = .slice none 0 0∧n = 0∧l = [])∨∃ r,v = slc r 0 n n∧h.at r = some (.lent (l.map int))
theorem LentC.ext {h h':Hp} {v:Value} {n:Nat} {l:List Int} (g:Grows h h') (k:LentC h v n l):LentC h' v n l:=by
 rcases k with h0 | ⟨r,rfl,hr⟩
 ·exact .inl h0
 ·exact .inr ⟨r,rfl,g.at_ _ _ hr⟩
end
end Go.Rx
