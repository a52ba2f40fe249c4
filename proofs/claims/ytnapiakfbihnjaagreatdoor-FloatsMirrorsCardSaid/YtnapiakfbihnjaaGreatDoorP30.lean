/-
  Add of numbers: its runs.
-/
import Derived.Test.YtnapiakfbihnjaaGreatDoorP29
set_option linter.unusedVariables false
set_option linter.unusedSimpArgs false
set_option maxRecDepth 1000000
namespace Go.Proofs.YtnapiakfbihnjaaGreatDoor
open Go.RowKit Go.Shelf Go.Canon Tryz
noncomputable def nest(c:CF→St→Option (Value×St)):Nat→CF→St→Option (Value×St)
 |0=>c
 |n+1=>orElse c (mV prog (nest c n) 1000)
theorem rC{c:CF→St→Option (Value×St)}(h:aN prog c): ∀n,aN prog (nest c n)
 |0=>h
 |n+1=>aA h (Hq mX qL (rC h n) 1000).e
def afR:CF→St→Option (Value×St):=orElse xE (orElse qI (orElse uq (orElse ah0 (orElse agQ (orElse La (orElse Gh ru))))))
theorem afS:aN prog afR:=aA qJ (aA mr (aA o9 (aA Y8 (aA YB (aA Eh (aA AB nM))))))
def dK(E P X:Int):Int:=aK E P (wX (ae X))
def aj(E P X:Int):Int:=kindOf E P (wX (ae X))
def ab3(E P X:Int)(neg:Bool)(l:List (Bool×Bool)):L_:=
 (true,true)::(true,true)::(ak E P (wX (ae X)),neg)::(decide (aG E P)&&(wB (ae X)&&decide (wX (ae X)<2*ai E P)),true)::
  (!decide (wX (ae X)/2^(IntKind.i64.wrap (E+P)).toNat/18446744073709551616=0∧wX (ae X)/2^(IntKind.i64.wrap (E+P)).toNat%18446744073709551616=0),false)::
  (wB (ae X)&&decide (0≤IntKind.i64.wrap (E+P)∧IntKind.i64.wrap (E+P)≤127),true)::(true,true)::(true,true)::(true,true)::(true,true)::(true,true)::l
def auq(E P m X Y:Int)(na nb:Bool):L_:=
 (false,false)::(false,false)::ab3 E P Y nb (ab3 E P X na [(false,false),(true,true),(true,true),(decide (m>4),false),(decide (m<0),false),(gq E P !=0,false),(true,true)])
def ab4(E P X:Int)(l:List (Bool×Bool)):L_:=
 (aj E P X==5,false)::(true,true)::(aj E P X==5,false)::(true,true)::(aj E P X==4,false)::(true,true)::(true,true)::(true,true)::(true,true)::l
def uf(E P m X Y:Int)(na nb:Bool):L_:=f_::ab4 E P Y (ab4 E P X (auq E P m X Y na nb))
def sK(E P K L:Int):Int:=Bf K (az E P) (az E P)+Bf L (az E P) (az E P)
def fi(E P:Int):Int:=min (az E P) (az E P)
def vG(E P X Y K L:Int)(nz:Bool)(l:List (Bool×Bool)):L_:=
 (pV (sK E P K L) !=0,nz)::(true,true)::(decide (sK E P K L<0)==decide (sK E P K L<0),true)::(true,true)::
  (decide (inB (Bf K (az E P) (az E P)) (fi E P))&&decide (inB (Bf L (az E P) (az E P)) (fi E P)),true)::(decide (L<0)==decide (L<0),true)::(decide (K<0)==decide (K<0),true)::
  (aj E P Y==3,false)::(true,true)::(aj E P X==3,false)::(true,true)::(aj E P X==3,false)::(true,true)::(true,true)::(true,true)::(true,true)::(true,true)::l
def Oe(E P m K L:Int)(l:List (Bool×Bool)):L_:=(decide (aG E P)&&(decide (0≤m∧m≤4)&&decide (inB (sK E P K L) (fi E P)∧ -40000≤fi E P)),T_)::(decide (sK E P K L<0)==decide (sK E P K L<0),T_)::l
def bC:Value:=.agg #[.int .u64 0,.int .u64 0]
def CS(E P m:Int)(m4 eq:Bool)(l:List (Bool×Bool)):L_:=(decide (aG E P)&&(wB bC&&decide (wX bC<ai E P)),T_)::t_::t_::(eq,eq)::(m==4,m4)::t_::l
def ug(n:Nat)(l:List (Bool×Bool)):L_:=match n with
 |0=>l
 |n+1=>(true,true)::ug n l
noncomputable def pW(E P m X Y:Int)(an:List Bool):Option (Value×Option gW×List (Bool×Bool)):=dJ prog TR (nest afR 6) 1000 6 [.v (kH E P),.v (.int .i64 m),.v (ae X),.v (ae Y)] an 1
theorem aiS(E P m X Y:Int):pW E P m X Y [F_,F_,F_,F_,T_,F_,F_,T_,F_,F_,F_,F_,T_,F_,F_,F_,T_,F_,F_,F_,F_,F_,F_,F_,T_,T_]=some (.tuple #[ae (mY E P m (sK E P (dK E P X) (dK E P Y)) (fi E P)),.int .i64 (mZ E P m (sK E P (dK E P X) (dK E P Y)) (fi E P)),.int .i64 0],some (.fact 0),ug 5 (Oe E P m (dK E P X) (dK E P Y) (vG E P X Y (dK E P X) (dK E P Y) true (uf E P m X Y false false)))):=by kernel_rfl
theorem aiT(E P m X Y:Int):pW E P m X Y [F_,F_,F_,F_,T_,F_,F_,T_,F_,F_,F_,F_,T_,F_,F_,F_,T_,F_,F_,F_,F_,F_,F_,F_,F_,F_,T_,T_,T_]=some (.tuple #[ae (wX bC),.int .i64 0,.int .i64 0],some (.fact 0),ug 6 (CS E P m false true (vG E P X Y (dK E P X) (dK E P Y) false (uf E P m X Y false false)))):=by kernel_rfl
theorem aiU(E P m X Y:Int):pW E P m X Y [F_,F_,F_,F_,T_,F_,F_,T_,F_,F_,F_,F_,T_,F_,F_,F_,T_,F_,F_,F_,F_,F_,F_,F_,F_,T_,T_,T_,T_]=some (.tuple #[ae (wX bC),.int .i64 0,.int .i64 0],some (.fact 0),ug 6 (CS E P m true true (vG E P X Y (dK E P X) (dK E P Y) false (uf E P m X Y false false)))):=by kernel_rfl
theorem aiV(E P m X Y:Int):pW E P m X Y [F_,F_,F_,F_,T_,F_,F_,T_,F_,T_,F_,F_,T_,F_,F_,F_,T_,F_,F_,F_,F_,F_,F_,F_,T_,T_]=some (.tuple #[ae (mY E P m (sK E P (dK E P X) (dK E P Y)) (fi E P)),.int .i64 (mZ E P m (sK E P (dK E P X) (dK E P Y)) (fi E P)),.int .i64 0],some (.fact 0),ug 5 (Oe E P m (dK E P X) (dK E P Y) (vG E P X Y (dK E P X) (dK E P Y) true (uf E P m X Y false true)))):=by kernel_rfl
theorem aiW(E P m X Y:Int):pW E P m X Y [F_,F_,F_,F_,T_,F_,F_,T_,F_,T_,F_,F_,T_,F_,F_,F_,T_,F_,F_,F_,F_,F_,F_,F_,F_,F_,F_,T_,T_]=some (.tuple #[ae (wX bC),.int .i64 0,.int .i64 0],some (.fact 0),ug 6 (CS E P m false false (vG E P X Y (dK E P X) (dK E P Y) false (uf E P m X Y false true)))):=by kernel_rfl
theorem aiY(E P m X Y:Int):pW E P m X Y [F_,F_,F_,F_,T_,F_,F_,T_,F_,T_,F_,F_,T_,F_,F_,F_,T_,F_,F_,F_,F_,F_,F_,F_,F_,T_,F_,T_,T_]=some (.tuple #[ae (wX bC+ai E P),.int .i64 0,.int .i64 0],some (.fact 0),ug 6 (CS E P m true false (vG E P X Y (dK E P X) (dK E P Y) false (uf E P m X Y false true)))):=by kernel_rfl
theorem aiZ(E P m X Y:Int):pW E P m X Y [F_,F_,F_,F_,T_,F_,T_,T_,F_,F_,F_,F_,T_,F_,F_,F_,T_,F_,F_,F_,F_,F_,F_,F_,T_,T_]=some (.tuple #[ae (mY E P m (sK E P (dK E P X) (dK E P Y)) (fi E P)),.int .i64 (mZ E P m (sK E P (dK E P X) (dK E P Y)) (fi E P)),.int .i64 0],some (.fact 0),ug 5 (Oe E P m (dK E P X) (dK E P Y) (vG E P X Y (dK E P X) (dK E P Y) true (uf E P m X Y true false)))):=by kernel_rfl
theorem ai0(E P m X Y:Int):pW E P m X Y [F_,F_,F_,F_,T_,F_,T_,T_,F_,F_,F_,F_,T_,F_,F_,F_,T_,F_,F_,F_,F_,F_,F_,F_,F_,F_,F_,T_,T_]=some (.tuple #[ae (wX bC),.int .i64 0,.int .i64 0],some (.fact 0),ug 6 (CS E P m false false (vG E P X Y (dK E P X) (dK E P Y) false (uf E P m X Y true false)))):=by kernel_rfl
theorem ai1(E P m X Y:Int):pW E P m X Y [F_,F_,F_,F_,T_,F_,T_,T_,F_,F_,F_,F_,T_,F_,F_,F_,T_,F_,F_,F_,F_,F_,F_,F_,F_,T_,F_,T_,T_]=some (.tuple #[ae (wX bC+ai E P),.int .i64 0,.int .i64 0],some (.fact 0),ug 6 (CS E P m true false (vG E P X Y (dK E P X) (dK E P Y) false (uf E P m X Y true false)))):=by kernel_rfl
theorem ai2(E P m X Y:Int):pW E P m X Y [F_,F_,F_,F_,T_,F_,T_,T_,F_,T_,F_,F_,T_,F_,F_,F_,T_,F_,F_,F_,F_,F_,F_,F_,T_,T_]=some (.tuple #[ae (mY E P m (sK E P (dK E P X) (dK E P Y)) (fi E P)),.int .i64 (mZ E P m (sK E P (dK E P X) (dK E P Y)) (fi E P)),.int .i64 0],some (.fact 0),ug 5 (Oe E P m (dK E P X) (dK E P Y) (vG E P X Y (dK E P X) (dK E P Y) true (uf E P m X Y true true)))):=by kernel_rfl
theorem ai3(E P m X Y:Int):pW E P m X Y [F_,F_,F_,F_,T_,F_,T_,T_,F_,T_,F_,F_,T_,F_,F_,F_,T_,F_,F_,F_,F_,F_,F_,F_,F_,F_,T_,T_,T_]=some (.tuple #[ae (wX bC+ai E P),.int .i64 0,.int .i64 0],some (.fact 0),ug 6 (CS E P m false true (vG E P X Y (dK E P X) (dK E P Y) false (uf E P m X Y true true)))):=by kernel_rfl
theorem ai4(E P m X Y:Int):pW E P m X Y [F_,F_,F_,F_,T_,F_,T_,T_,F_,T_,F_,F_,T_,F_,F_,F_,T_,F_,F_,F_,F_,F_,F_,F_,F_,T_,T_,T_,T_]=some (.tuple #[ae (wX bC+ai E P),.int .i64 0,.int .i64 0],some (.fact 0),ug 6 (CS E P m true true (vG E P X Y (dK E P X) (dK E P Y) false (uf E P m X Y true true)))):=by kernel_rfl
end Go.Proofs.YtnapiakfbihnjaaGreatDoor
