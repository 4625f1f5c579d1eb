/- A part of the engine. -/
import Derived.Test.YtedneplaibmppaaWx14
import Derived.OpenShut
set_option linter.unusedVariables false
set_option linter.unusedSectionVars false
set_option linter.unusedSimpArgs false
namespace Go.Rx
open Go.RowKit Go.ChangeShapes
noncomputable section
/-! Calls with integers and slices of integers, or of arrays of integers, as the caller holds them. -/
inductive OJ (W:World):Value→Nat→List Int→Prop
 | nil:OJ W (.slice none 0 0) 0 []
 | row (b o n c:Nat) (l:List Int) (hb:b < W.heap.size) (hc:n≤c) (h:∀ k,(hk:k < l.length)→W.cell? ⟨b,o + k,none⟩ = some (int l[k])):OJ W (.slice (some ⟨b,o,none⟩) n c) n l
theorem OJ.of {W:World}{v:Value}{l:List Int}(h:Zh W v l):OJ W v l.length l:=by
 cases h with
 | nil=>exact .nil
 | row b o c l hb hc h=>exact .row b o l.length c l hb hc h
inductive PB where
 | i (n:Int)
 | s (v:Value) (n:Nat) (l:List Int)
def PB.val:PB→Value
 | .i n=>int n
 | .s v _ _=>v
def PB.ok (W:World):PB→Prop
 | .i _=>True
 | .s v n l=>OJ W v n l
def PB.row:PB→List Value
 | .i _=>[]
 | .s _ _ l=>l.map int
def PB.info:PB→Option Info
 | .i _=>none
 | .s v _ _=>match v with
  | .slice (some a) n c=>some ⟨a.block,a.off,c - n⟩
  | _=>none
def OL (h:Hp)(v:Value)(n:Nat)(l:List Int):Prop:=(v = .slice none 0 0∧n = 0∧l = [])∨∃ r,v = slc r 0 n n∧h.at r = some (.qb (l.map int))
theorem OL.ext {h h':Hp}{v:Value}{n:Nat}{l:List Int}(g:aA h h')(k:OL h v n l):OL h' v n l:=by
 rcases k with h0 | ⟨r,rfl,hr⟩
 ·exact .inl h0
 ·exact .inr ⟨r,rfl,g.at_ _ _ hr⟩
end
end Go.Rx
