/-
  What one word of a format stands for, or its error.
-/
import Derived.Test.YtnapiakfbihnjaaGreatDoorP26
set_option linter.unusedVariables false
set_option linter.unusedSimpArgs false
set_option maxRecDepth 1000000
namespace Go.Proofs.YtnapiakfbihnjaaGreatDoor
open Go.RowKit Go.Shelf Go.Canon Tryz
def kH(E P:Int):Value:=.agg #[.int .i64 E,.int .i64 P]
def QP:CF→St→Option (Value×St):=orElse xE (orElse qI uq)
noncomputable def am7:CF→St→Option (Value×St):=orElse QP (mV prog (orElse QP (mV prog QP 1000)) 1000)
theorem JX:aN prog QP:=aA qJ (aA mr o9)
theorem EZ:aN prog am7:=aA JX (Hq mX qL (aA JX (Hq mX qL JX 1000).e) 1000).e
def gq(E P:Int):Int:=if aG E P then 0 else 2
def ab1(E P X:Int)(far:Bool):L_:=
 [(!decide (wX (ae X)/2^(IntKind.i64.wrap (E+P)).toNat/18446744073709551616=0∧wX (ae X)/2^(IntKind.i64.wrap (E+P)).toNat%18446744073709551616=0),far),(wB (ae X)&&decide (0≤IntKind.i64.wrap (E+P)∧IntKind.i64.wrap (E+P)≤127),true),
  (true,true),(true,true),(true,true),(true,true),(true,true),(false,false),(true,true),(true,true),(true,true),(false,false),(false,false),(gq E P !=0,false),(true,true)]
def ab2(E P X:Int)(neg:Bool):L_:=t_::t_::f_::f_::t_::t_::(ak E P (wX (ae X)),neg)::(decide (aG E P)&&(wB (ae X)&&decide (wX (ae X)<2*ai E P)),T_)::ab1 E P X false
noncomputable def IP(E P X:Int)(an:List Bool)(n:Nat):Option (Value×Option gW×List (Bool×Bool)):=dJ prog TR am7 1000 63 [.v (kH E P),.v (ae X)] an n
theorem aiP(E P X:Int):IP E P X [true,true,true] 1=some (.tuple #[Jf 0 false,.int .i64 2],some (.fact 0),[(true,true),(true,true),(true,true),(true,true),(true,true),(gq E P !=0,true),(true,true)]):=by kernel_rfl
theorem aiN(E P X:Int):IP E P X [F_,F_,F_,F_,T_,T_,T_,T_] 1=some (.tuple #[Jf 0 false,.int .i64 6],some (.fact 0),(true,true)::(true,true)::ab1 E P X true):=by kernel_rfl
theorem aup(E P X:Int):IP E P X [F_,F_,F_,F_,T_,F_,T_,F_,F_,T_] 25=some (.tuple #[subst 25 4 (Ah (kindOf E P (wX (ae X))) true (aK E P (wX (ae X)))),.int .i64 0],some (.ghost 0 [aK E P (wX (ae X)),az E P]),ab2 E P X true):=by kernel_rfl
theorem auo(E P X:Int):IP E P X [F_,F_,F_,F_,T_,F_,F_,F_,F_,T_] 25=some (.tuple #[subst 25 4 (Ah (kindOf E P (wX (ae X))) false (aK E P (wX (ae X)))),.int .i64 0],some (.ghost 0 [aK E P (wX (ae X)),az E P]),ab2 E P X false):=by kernel_rfl
end Go.Proofs.YtnapiakfbihnjaaGreatDoor
namespace Go.Proofs.YtnapiakfbihnjaaGreatDoor
open Go.RowKit Go.Shelf Go.Canon
theorem Bj{a b:Nat}(h:a≤b):(2:Int)^b=2^(b-a)*2^a:=by rw[←Int.pow_add];congr 1;omega
end Go.Proofs.YtnapiakfbihnjaaGreatDoor
