/-
  The law's closed call awake: it returns true in every world that holds the listed tables, and writes nothing that was there.
-/
import Derived.Test.YtnapiakfbihnjaaGreatDoorProg
import Derived.Test.YtnapiakfbihnjaaGreatDoorP04
import Derived.KernelRfl
set_option linter.unusedVariables false
set_option linter.unusedSimpArgs false
namespace Go.Proofs.YtnapiakfbihnjaaGreatDoor
open Go.RowKit Go.Canon
attribute [local instance] QQ
set_option maxRecDepth 1000000
def ajr:List Value:=[0,1,56,2,57,49,28,3,61,58,42,50,38,29,17,4,62,47,59,36,45,43,51,22,53,39,33,30,24,18,12,5,63,55,48,27,60,41,37,16,46,35,44,21,52,32,23,11,54,26,40,15,34,20,31,10,25,14,19,9,13,8,7,6].map (fun z=>Value.int .u8 z)
def avi:List Value:=[.int .i64 0,.int .i64 1,.int .i64 2,.int .i64 4,.int .i64 3]
def QD:List Value:=[1,10,100,1000,10000,100000,1000000,10000000,100000000,1000000000,10000000000,100000000000,1000000000000,10000000000000,100000000000000,1000000000000000,10000000000000000,100000000000000000,1000000000000000000,10000000000000000000].map (fun z=>Value.int .u64 z)
def aam:List (Nat×List Value):=[(1,ajr),(0,avi),(9,QD)]
theorem adl:Np Tryz.prog 100000 20 #[] (Nq aam 11)=true:=by kernel_rfl
end Go.Proofs.YtnapiakfbihnjaaGreatDoor
