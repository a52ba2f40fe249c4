/-
  FloatsWords: the row's statement and its card. Conditions: none but the row's own (the listed package variables are as the text lays them).
-/
import Derived.Test.YtedhbbjlbgpafaaGreatDoorCards
import Derived.Test.YtedhbbjlbgpafaaGreatDoorTie
import Derived.WalkKit
import Derived.ProofKit
import Derived.OpenShut
import Derived.Deep.DeepHandedRow
import Derived.Deep.DeepWitnessRowRef
import Derived.LaidMore
import Derived.Lib.LaidTab
import Derived.Test.YtedhbbjlbgpafaaGreatDoorP44
import Derived.Test.YtedhbbjlbgpafaaGreatDoorP45
set_option linter.unusedVariables false
set_option linter.unusedSimpArgs false
namespace Go.Proofs.YtedhbbjlbgpafaaGreatDoor.floatsWords
open Go.ChangeShapes Go.WideShapes Go.ChangeAt Go.RowKit Go.Canon
theorem fname:Tryz.pinned.checked.prog.funcNamed Rows.floatsWordsRow.func=some 4:=by kernel_rfl
theorem said:Rows.FloatsWordsSaid:=
 OpenClaim.holds_of_cond 4 Tryz.f4 rfl rfl rfl rfl rfl rfl rfl ⟨rfl,rfl,rfl,rfl,rfl⟩ rfl rfl rfl rfl rfl fname Tryz.func4 closed
  (of_decide_eq_true (by kernel_rfl)) (by unfold Func.isWrapper;first|(rw[if_pos (by decide+kernel)];kernel_rfl)|(rw[if_neg (by decide+kernel)];exact⟨rfl,rfl⟩))
  (fun os started H enc _ F=>by rw[OpenClaim.pre_eq_preRow];exact lifted os started H enc F)
theorem noStand:Tryz.pinned.checked.prog.wantsStandIn 28=false:=by kernel_rfl
theorem plain(f:FuncId)(fn:Func)(hf:Tryz.pinned.checked.prog.funcNamed "vernier/vernierlaw02.FloatsWords" =some f)(hfn:Tryz.pinned.checked.prog.funcs[f]?=some fn):
 true=Tryz.pinned.checked.prog.looks []∧ ∀(j:Nat) t,fn.params[j]?=some t→Tryz.pinned.checked.prog.wantsStandIn t=false:=by
 obtain rfl:f=4:=Option.some.inj ((show Tryz.prog.funcNamed "vernier/vernierlaw02.FloatsWords" =some 4 by kernel_rfl).symm.trans hf)|>.symm
 obtain rfl:fn=Tryz.f4:=(Option.some.inj (Tryz.func4.symm.trans hfn)).symm
 refine⟨by kernel_rfl,fun j t ht=>?_⟩
 rw[Tryz.params4]at ht
 match j,ht with
 |0,ht=>
  obtain rfl:(28:TypeId)=t:=Option.some.inj ht
  exact noStand
 |j+1,ht=>simp at ht
theorem card:Rows.FloatsWordsCardSaid:=
 Claim7.holds_tied_plain_at .later [] _ _ _ _ said (fun _ h=>by cases h) (by kernel_rfl) (fun _ h=>by cases h) floatsWords_row_tie rfl ⟨rfl,rfl⟩ (by kernel_rfl) rfl plain (by kernel_rfl)
end Go.Proofs.YtedhbbjlbgpafaaGreatDoor.floatsWords
