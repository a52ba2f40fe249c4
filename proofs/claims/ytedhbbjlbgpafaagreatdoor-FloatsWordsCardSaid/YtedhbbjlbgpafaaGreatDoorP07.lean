/-
  The law's closed call awake: it returns true in every world that holds the listed tables, and writes nothing that was there.
-/
import Derived.Test.YtedhbbjlbgpafaaGreatDoorProg
import Derived.Test.YtedhbbjlbgpafaaGreatDoorP04
import Derived.KernelRfl
set_option linter.unusedVariables false
set_option linter.unusedSimpArgs false
namespace Go.Proofs.YtedhbbjlbgpafaaGreatDoor
open Go.RowKit Go.Canon
attribute [local instance] noGhosts
set_option maxRecDepth 1000000
def tab64:List Value:=[0,1,56,2,57,49,28,3,61,58,42,50,38,29,17,4,62,47,59,36,45,43,51,22,53,39,33,30,24,18,12,5,63,55,48,27,60,41,37,16,46,35,44,21,52,32,23,11,54,26,40,15,34,20,31,10,25,14,19,9,13,8,7,6].map (fun z=>Value.int .u8 z)
def tabOs:List Value:=[.int .i64 0,.int .i64 1,.int .i64 2,.int .i64 4,.int .i64 3]
def tab10:List Value:=[1,10,100,1000,10000,100000,1000000,10000000,100000000,1000000000,10000000000,100000000000,1000000000000,10000000000000,100000000000000,1000000000000000,10000000000000000,100000000000000000,1000000000000000000,10000000000000000000].map (fun z=>Value.int .u64 z)
def rowsA:List (Nat×List Value):=[(2,tab64),(0,tabOs),(9,tab10)]
theorem awake_run:closedB Tryz.prog 100000 21 #[] (roState rowsA 11)=true:=by kernel_rfl
end Go.Proofs.YtedhbbjlbgpafaaGreatDoor
