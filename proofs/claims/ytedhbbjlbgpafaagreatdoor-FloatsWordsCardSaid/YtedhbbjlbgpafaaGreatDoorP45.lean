/-
  FloatsWords: what the row's lists say of the program's text (one by one: together they take too much memory). No conditions.
-/
import Derived.Test.YtedhbbjlbgpafaaGreatDoorRows
import Derived.ProofKit
import Derived.JoinedCond
set_option linter.unusedVariables false
set_option linter.unusedSimpArgs false
namespace Go.Proofs.YtedhbbjlbgpafaaGreatDoor.floatsWords
open Go.ChangeShapes Go.WideShapes Go.ChangeAt Go.RowKit
noncomputable abbrev PP:Program:=Tryz.pinned.checked.prog
theorem c1:(Rows.floatsWordsRow.inPlace==PP.inPlace 4)=true:=by kernel_rfl
theorem c2:(Rows.floatsWordsRow.unfollowed==PP.unfollowed 4)=true:=by kernel_rfl
theorem c3:(Rows.floatsWordsRow.recurses==PP.recurses 4)=true:=by kernel_rfl
theorem c4:(Rows.floatsWordsRow.named==PP.varsNamed 4)=true:=by kernel_rfl
theorem closed:joinedFacts PP 4 Tryz.f4 (OpenSpec.ofChange Rows.floatsWordsSpec).bare Rows.floatsWordsRow=true:=by
 unfold joinedFacts
 rw[c1,c2,c3,c4]
 kernel_rfl
end Go.Proofs.YtedhbbjlbgpafaaGreatDoor.floatsWords
