/-
  The reference's numbers: a sign, a numerator and a denominator in lowest terms; made.
-/
import Derived.Test.YtedhbbjlbgpafaaGreatDoorP15
import Derived.Laws.AppendOwnNone
import Derived.Deep.RegionHeld3
import Derived.Test.YtedhbbjlbgpafaaGreatDoorP13
set_option linter.unusedVariables false
set_option linter.unusedSimpArgs false
namespace Go.Proofs.YtedhbbjlbgpafaaGreatDoor.R
open Go.RowKit Go.Shelf
abbrev zcells:Array Value:= #[.int .i64 0,.slice none 0 0,.slice none 0 0]
structure Rm(w:World)(v:Value)(s n d:Int):Prop where
 ex: ∃bo lb cb bo2 lb2 cb2,v=.agg #[.int .i64 s,.slice bo lb cb,.slice bo2 lb2 cb2]∧Nt w (.slice bo lb cb) n∧
  ((s=0∧n=0∧d=1∧bo=none∧lb=0∧cb=0∧bo2=none∧lb2=0∧cb2=0)∨((s=1∨s= -1)∧0<n∧0<d∧Int.gcd n d=1∧Nt w (.slice bo2 lb2 cb2) d))
def Rq(w:World)(v:Value)(K D:Int):Prop:=0<D∧ ∃s n d,Rm w v s n d∧s*n*D=K*d
theorem Rm.zero(w:World):Rm w (.agg zcells) 0 0 1:=⟨_,_,_,_,_,_,rfl,Nt.zero _,.inl ⟨rfl,rfl,rfl,rfl,rfl,rfl,rfl,rfl,rfl⟩⟩
end Go.Proofs.YtedhbbjlbgpafaaGreatDoor.R
