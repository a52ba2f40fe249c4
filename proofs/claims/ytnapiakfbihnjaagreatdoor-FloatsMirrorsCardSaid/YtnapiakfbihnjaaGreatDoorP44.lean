/-
  The machine's Cast: its paths.
-/
import Derived.Test.YtnapiakfbihnjaaGreatDoorP43
set_option linter.unusedVariables false
set_option linter.unusedSimpArgs false
set_option linter.unusedSectionVars false
set_option maxRecDepth 1000000
set_option maxHeartbeats 4000000
namespace Go.Proofs.YtnapiakfbihnjaaGreatDoor
open Go.RowKit Go.Shelf Go.Canon
def caC:CF→St→Option (Value×St):=orElse xE (orElse qI (orElse uq (orElse Gh (orElse ru (orElse nK Dj)))))
theorem aql:aN Tryz.prog caC:=aA qJ (aA mr (aA o9 (aA AB (aA nM (aA lG xH)))))
noncomputable def tu(E P G Q m X:Int)(an:List Bool)(n:Nat):Option (Value×Option gW×List (Bool×Bool)):=dJ Tryz.prog TR (nest caC 6) 1000 27 [.v (kH E P),.v (kH G Q),.v (.int .i64 m),.v (ae X)] an n
def nD(E P m:Int):L_:=[(decide (m<0),F_),(gq E P !=0,F_),t_]
def oD(E P m:Int):L_:=t_::f_::t_::t_::(decide (m>4),F_)::nD E P m
def qf(E P G Q m X:Int):L_:=(wB (ae X)&&decide (0≤(IntKind.i64.wrap (E+P))∧(IntKind.i64.wrap (E+P))≤127),T_)::t_::t_::t_::t_::t_::f_::t_::t_::(decide (m>4),F_)::(decide (m<0),F_)::(gq G Q !=0,F_)::oD E P m
def qg(E P G Q m X:Int):L_:=(decide (aG E P)&&(wB (ae X)&&decide (wX (ae X)<2*ai E P)),T_)::(!decide (wX (ae X)/2^(IntKind.i64.wrap (E+P)).toNat/18446744073709551616=0∧wX (ae X)/2^(IntKind.i64.wrap (E+P)).toNat%18446744073709551616=0),F_)::qf E P G Q m X
def yV(E P G Q m X:Int)(na:Bool):L_:=t_::t_::t_::t_::f_::f_::t_::t_::(ak E P (wX (ae X)),na)::qg E P G Q m X
def Hz(E P G Q m X:Int):L_:=t_::t_::f_::(aj E P X==5,F_)::t_::(aj E P X==5,F_)::t_::(aj E P X==4,F_)::t_::t_::t_::t_::f_::f_::t_::t_::(ak E P (wX (ae X)),F_)::qg E P G Q m X
def H6(E P G Q m X:Int):L_:=t_::t_::f_::(aj E P X==5,F_)::t_::(aj E P X==5,F_)::t_::(aj E P X==4,F_)::t_::t_::t_::t_::f_::f_::t_::t_::(ak E P (wX (ae X)),T_)::qg E P G Q m X
def YD(E P G Q m X:Int)(na:Bool):L_:=t_::t_::t_::(decide (aG G Q),T_)::f_::f_::(aj E P X==5,F_)::t_::(aj E P X==4,T_)::yV E P G Q m X na
theorem ayw(E P G Q m X:Int)(na:Bool):tu E P G Q m X [F_,F_,F_,F_,F_,F_,F_,F_,T_,F_,na,F_,F_,T_,T_,F_,F_,F_,T_] 1=some (dC (aV G Q) 0,some (.fact 0),YD E P G Q m X na):=by kernel_rfl
def YE(E P G Q m X:Int)(na:Bool):L_:=t_::t_::t_::t_::(decide (aG G Q),T_)::f_::(aj E P X==5,T_)::t_::(aj E P X==5,T_)::t_::(aj E P X==4,F_)::yV E P G Q m X na
theorem ayx(E P G Q m X:Int)(na:Bool):tu E P G Q m X [F_,F_,F_,F_,F_,F_,F_,F_,T_,F_,na,F_,F_,T_,F_,T_,T_,F_,T_] 1=some (dC (aV G Q) 1,some (.fact 0),YE E P G Q m X na):=by kernel_rfl
def YF(E P G Q m X:Int)(na:Bool):L_:=t_::t_::t_::t_::t_::(decide (aG G Q)&&(decide (0≤m∧m≤4)&&decide (inB (aK E P (wX (ae X))) (az E P)∧ -40000≤(az E P))),T_)::(decide (aK E P (wX (ae X))<0)==decide (aK E P (wX (ae X))<0),T_)::(aj E P X==3,F_)::(aj E P X==1,F_)::t_::t_::f_::(aj E P X==5,F_)::t_::(aj E P X==5,F_)::t_::(aj E P X==4,F_)::yV E P G Q m X na
theorem ayy(E P G Q m X:Int)(na:Bool):tu E P G Q m X [F_,F_,F_,F_,F_,F_,F_,F_,T_,F_,na,F_,F_,T_,F_,F_,F_,F_,F_,F_,T_] 1=some (dC (mY G Q m (aK E P (wX (ae X))) (az E P)) (mZ G Q m (aK E P (wX (ae X))) (az E P)),some (.fact 0),YF E P G Q m X na):=by kernel_rfl
def Tj(E P G Q m X:Int):L_:=t_::t_::t_::t_::t_::(decide (aG G Q)&&(wB (ae (aB G Q))&&decide (wX (ae (aB G Q))<ai G Q)),T_)::(decide (aG G Q),T_)::(aj E P X==3,T_)::(aj E P X==1,F_)::Hz E P G Q m X
theorem avj(E P G Q m X:Int):tu E P G Q m X [F_,F_,F_,F_,F_,F_,F_,F_,T_,F_,F_,F_,F_,T_,F_,F_,F_,F_,F_,T_,T_] 1=some (dC (wX (ae (aB G Q))) 0,some (.fact 0),Tj E P G Q m X):=by kernel_rfl
def Tm(E P G Q m X:Int):L_:=t_::t_::t_::t_::t_::(decide (aG G Q)&&(wB (ae (aB G Q))&&decide (wX (ae (aB G Q))<ai G Q)),T_)::(decide (aG G Q),T_)::(aj E P X==3,T_)::(aj E P X==1,F_)::H6 E P G Q m X
theorem avk(E P G Q m X:Int):tu E P G Q m X [F_,F_,F_,F_,F_,F_,F_,F_,T_,F_,T_,F_,F_,T_,F_,F_,F_,F_,F_,T_,T_] 1=some (dC (wX (ae (aB G Q))+ai G Q) 0,some (.fact 0),Tm E P G Q m X):=by kernel_rfl
def Tn(E P G Q m X:Int):L_:=t_::t_::t_::t_::t_::(decide (aG G Q)&&(wB bC&&decide (wX bC<ai G Q)),T_)::(aj E P X==1,T_)::Hz E P G Q m X
theorem avl(E P G Q m X:Int):tu E P G Q m X [F_,F_,F_,F_,F_,F_,F_,F_,T_,F_,F_,F_,F_,T_,F_,F_,F_,F_,T_,T_] 1=some (dC (wX bC) 0,some (.fact 0),Tn E P G Q m X):=by kernel_rfl
def Tq(E P G Q m X:Int):L_:=t_::t_::t_::t_::t_::(decide (aG G Q)&&(wB bC&&decide (wX bC<ai G Q)),T_)::(aj E P X==1,T_)::H6 E P G Q m X
theorem avm(E P G Q m X:Int):tu E P G Q m X [F_,F_,F_,F_,F_,F_,F_,F_,T_,F_,T_,F_,F_,T_,F_,F_,F_,F_,T_,T_] 1=some (dC (wX bC+ai G Q) 0,some (.fact 0),Tq E P G Q m X):=by kernel_rfl
def Tt(E P G Q m X:Int):L_:=[t_,t_,t_,t_,(gq E P !=0,T_),t_]
theorem avp(E P G Q m X:Int):tu E P G Q m X [true,true,true] 1=some (jB 2,some (.fact 0),Tt E P G Q m X):=by kernel_rfl
def Tu(E P G Q m X:Int):L_:=[t_,t_,t_,t_,(decide (m<0),T_),(gq E P !=0,F_),t_]
theorem avq(E P G Q m X:Int):tu E P G Q m X [F_,T_,T_,T_] 1=some (jB 2,some (.fact 0),Tu E P G Q m X):=by kernel_rfl
def Tv(E P G Q m X:Int):L_:=t_::t_::t_::t_::(decide (m>4),T_)::nD E P m
theorem avs(E P G Q m X:Int):tu E P G Q m X [F_,F_,T_,T_,T_] 1=some (jB 2,some (.fact 0),Tv E P G Q m X):=by kernel_rfl
def Tz(E P G Q m X:Int):L_:=t_::t_::t_::t_::(gq G Q !=0,T_)::oD E P m
theorem avt(E P G Q m X:Int):tu E P G Q m X [F_,F_,F_,F_,T_,T_,T_] 1=some (jB 2,some (.fact 0),Tz E P G Q m X):=by kernel_rfl
def TA(E P G Q m X:Int):L_:=t_::t_::(!decide (wX (ae X)/2^(IntKind.i64.wrap (E+P)).toNat/18446744073709551616=0∧wX (ae X)/2^(IntKind.i64.wrap (E+P)).toNat%18446744073709551616=0),T_)::qf E P G Q m X
theorem avu(E P G Q m X:Int):tu E P G Q m X [F_,F_,F_,F_,F_,F_,F_,F_,T_,T_,T_,T_] 1=some (jB 6,some (.fact 0),TA E P G Q m X):=by kernel_rfl
def mlC:CF→St→Option (Value×St):=orElse xE (orElse qI (orElse uq (orElse arY (orElse Gh (orElse ru (orElse nK Dj))))))
theorem arZ:aN Tryz.prog mlC:=aA qJ (aA mr (aA o9 (aA aoe (aA AB (aA nM (aA lG xH))))))
noncomputable def jC(E P m X Y:Int)(an:List Bool)(n:Nat):Option (Value×Option gW×List (Bool×Bool)):=dJ Tryz.prog TR (nest mlC 6) 1000 10 [.v (kH E P),.v (.int .i64 m),.v (ae X),.v (ae Y)] an n
def fK(E P m:Int):L_:=[(decide (m<0),F_),(gq E P !=0,F_),t_]
def fZ(E P m X:Int):L_:=(wB (ae X)&&decide (0≤(IntKind.i64.wrap (E+P))∧(IntKind.i64.wrap (E+P))≤127),T_)::t_::t_::t_::t_::t_::f_::t_::t_::(decide (m>4),F_)::fK E P m
def gG(E P m X Y:Int)(na:Bool):L_:=(wB (ae Y)&&decide (0≤(IntKind.i64.wrap (E+P))∧(IntKind.i64.wrap (E+P))≤127),T_)::t_::t_::t_::t_::t_::t_::t_::(ak E P (wX (ae X)),na)::(decide (aG E P)&&(wB (ae X)&&decide (wX (ae X)<2*ai E P)),T_)::(!decide (wX (ae X)/2^(IntKind.i64.wrap (E+P)).toNat/18446744073709551616=0∧wX (ae X)/2^(IntKind.i64.wrap (E+P)).toNat%18446744073709551616=0),F_)::fZ E P m X
def gI(E P m X Y:Int)(na nb:Bool):L_:=t_::t_::t_::t_::f_::f_::t_::t_::(ak E P (wX (ae Y)),nb)::(decide (aG E P)&&(wB (ae Y)&&decide (wX (ae Y)<2*ai E P)),T_)::(!decide (wX (ae Y)/2^(IntKind.i64.wrap (E+P)).toNat/18446744073709551616=0∧wX (ae Y)/2^(IntKind.i64.wrap (E+P)).toNat%18446744073709551616=0),F_)::gG E P m X Y na
def iZ(E P m X Y:Int)(na nb:Bool):L_:=t_::t_::t_::t_::(aj E P X==5,F_)::t_::(aj E P X==5,F_)::t_::(aj E P X==4,F_)::gI E P m X Y na nb
def jk(E P m X Y:Int)(na nb:Bool):L_:=t_::t_::t_::f_::(aj E P Y==5,F_)::t_::(aj E P Y==5,F_)::t_::(aj E P Y==4,F_)::iZ E P m X Y na nb
def uC(E P m X Y:Int)(na nb:Bool):L_:=t_::t_::(aj E P X==3,F_)::t_::(aj E P X==1,F_)::jk E P m X Y na nb
def Dx(E P m X Y:Int)(na nb:Bool):L_:=t_::(aj E P X==3,F_)::t_::(na !=nb,F_)::uC E P m X Y na nb
def Iy(E P m X Y:Int)(na nb:Bool):L_:=t_::(aj E P X==1,F_)::t_::(aj E P Y==3,F_)::Dx E P m X Y na nb
def Dy(E P m X Y:Int)(na nb:Bool):L_:=t_::(aj E P X==3,F_)::t_::(na !=nb,T_)::uC E P m X Y na nb
def EN(E P m X Y:Int)(na nb:Bool):L_:=t_::(aj E P X==1,F_)::t_::(aj E P Y==3,F_)::Dy E P m X Y na nb
def qX(E P m X Y:Int)(na nb:Bool):L_:=t_::(aj E P X==3,T_)::t_::(aj E P X==1,F_)::jk E P m X Y na nb
def EO(E P m X Y:Int)(na nb:Bool):L_:=t_::t_::t_::t_::t_::t_::(decide (aG E P)&&(wB (ae (aB E P))&&decide (wX (ae (aB E P))<ai E P)),T_)::(decide (aG E P),T_)::t_::f_::t_::t_::(aj E P X==3,T_)::t_::(na !=nb,F_)::t_::t_::(aj E P Y==1,F_)::qX E P m X Y na nb
def EP(E P m X Y:Int)(na nb:Bool):L_:=t_::t_::t_::t_::t_::t_::(decide (aG E P)&&(wB (ae (aB E P))&&decide (wX (ae (aB E P))<ai E P)),T_)::(decide (aG E P),T_)::t_::f_::t_::t_::(aj E P X==3,T_)::t_::(na !=nb,T_)::t_::t_::(aj E P Y==1,F_)::qX E P m X Y na nb
def wE(E P m X Y:Int)(na nb:Bool):L_:=t_::t_::(aj E P X==3,F_)::t_::(aj E P Y==3,F_)::t_::(aj E P X==1,T_)::jk E P m X Y na nb
def EQ(E P m X Y:Int)(na nb:Bool):L_:=t_::t_::t_::t_::t_::t_::(decide (aG E P)&&(wB bC&&decide (wX bC<ai E P)),T_)::t_::t_::t_::(aj E P X==1,T_)::t_::(aj E P Y==3,F_)::t_::(aj E P X==3,F_)::t_::(na !=nb,F_)::wE E P m X Y na nb
def ER(E P m X Y:Int)(na nb:Bool):L_:=t_::t_::t_::t_::t_::t_::(decide (aG E P)&&(wB bC&&decide (wX bC<ai E P)),T_)::t_::t_::t_::(aj E P X==1,T_)::t_::(aj E P Y==3,F_)::t_::(aj E P X==3,F_)::t_::(na !=nb,T_)::wE E P m X Y na nb
def ES(E P m X Y:Int)(na nb:Bool):L_:=t_::t_::t_::t_::(aj E P X==5,F_)::t_::(aj E P X==4,T_)::gI E P m X Y na nb
def UM(E P m X Y:Int)(na nb:Bool):L_:=t_::t_::t_::t_::t_::(decide (aG E P),T_)::f_::t_::t_::t_::(aj E P X==5,T_)::t_::(aj E P X==5,T_)::t_::(aj E P X==4,F_)::gI E P m X Y na nb
theorem avW(E P m X Y:Int)(na nb:Bool):jC E P m X Y [F_,F_,F_,F_,T_,F_,na,T_,F_,nb,F_,F_,T_,F_,T_,T_,T_,F_,T_] 1=some (dC (aV E P) 1,some (.fact 0),UM E P m X Y na nb):=by kernel_rfl
def UN(E P m X Y:Int)(na nb:Bool):L_:=t_::t_::t_::t_::(decide (aG E P),T_)::f_::f_::(aj E P Y==5,F_)::ES E P m X Y na nb
theorem avX(E P m X Y:Int)(na nb:Bool):jC E P m X Y [F_,F_,F_,F_,T_,F_,na,T_,F_,nb,F_,F_,T_,T_,F_,T_,F_,F_,F_,T_] 1=some (dC (aV E P) 0,some (.fact 0),UN E P m X Y na nb):=by kernel_rfl
def UO(E P m X Y:Int)(na nb:Bool):L_:=t_::t_::t_::t_::t_::(decide (aG E P),T_)::f_::(aj E P Y==5,T_)::ES E P m X Y na nb
theorem avZ(E P m X Y:Int)(na nb:Bool):jC E P m X Y [F_,F_,F_,F_,T_,F_,na,T_,F_,nb,F_,F_,T_,T_,F_,T_,T_,F_,T_] 1=some (dC (aV E P) 1,some (.fact 0),UO E P m X Y na nb):=by kernel_rfl
def UQ(E P m X Y:Int)(na nb:Bool):L_:=t_::t_::t_::t_::(decide (aG E P),T_)::f_::f_::(aj E P Y==5,F_)::t_::(aj E P Y==4,T_)::iZ E P m X Y na nb
theorem av1(E P m X Y:Int)(na nb:Bool):jC E P m X Y [F_,F_,F_,F_,T_,F_,na,T_,F_,nb,F_,F_,T_,F_,F_,F_,T_,T_,F_,F_,F_,T_] 1=some (dC (aV E P) 0,some (.fact 0),UQ E P m X Y na nb):=by kernel_rfl
def UR(E P m X Y:Int)(na nb:Bool):L_:=t_::t_::t_::t_::t_::(decide (aG E P),T_)::f_::(aj E P Y==5,T_)::t_::(aj E P Y==5,T_)::t_::(aj E P Y==4,F_)::iZ E P m X Y na nb
theorem av2(E P m X Y:Int)(na nb:Bool):jC E P m X Y [F_,F_,F_,F_,T_,F_,na,T_,F_,nb,F_,F_,T_,F_,F_,F_,T_,F_,T_,T_,F_,T_] 1=some (dC (aV E P) 1,some (.fact 0),UR E P m X Y na nb):=by kernel_rfl
def Pz(E P m X Y:Int)(na nb:Bool):L_:=t_::t_::t_::t_::t_::t_::(decide (aG E P)&&(decide (0≤m∧m≤4)&&decide (inB ((aK E P (wX (ae X)))*(aK E P (wX (ae Y)))) ((az E P)+(az E P))∧ -40000≤((az E P)+(az E P)))),T_)::(decide ((aK E P (wX (ae X)))*(aK E P (wX (ae Y)))<0)==decide ((aK E P (wX (ae X)))*(aK E P (wX (ae Y)))<0),T_)::f_::f_::t_::t_::(decide (fV (aK E P (wX (ae X))) 1 (az E P))&&decide (fV (aK E P (wX (ae Y))) 1 (az E P)),T_)::(decide (aK E P (wX (ae Y))<0)==decide (aK E P (wX (ae Y))<0),T_)::(decide (aK E P (wX (ae X))<0)==decide (aK E P (wX (ae X))<0),T_)::(aj E P Y==1,F_)::Iy E P m X Y na nb
theorem ar0(E P m X Y:Int)(na nb:Bool):jC E P m X Y [F_,F_,F_,F_,T_,F_,na,T_,F_,nb,F_,F_,T_,F_,F_,F_,T_,F_,F_,F_,F_,F_,F_,F_,F_,F_,F_,F_,F_,F_,T_] 1=some (dC (mY E P m ((aK E P (wX (ae X)))*(aK E P (wX (ae Y)))) (az E P+az E P)) (mZ E P m ((aK E P (wX (ae X)))*(aK E P (wX (ae Y)))) (az E P+az E P)),some (.fact 0),Pz E P m X Y na nb):=by kernel_rfl
def PD(E P m X Y:Int)(na nb:Bool):L_:=t_::t_::t_::t_::t_::t_::(decide (aG E P)&&(decide (0≤m∧m≤4)&&decide (inB ((aK E P (wX (ae X)))*(aK E P (wX (ae Y)))) ((az E P)+(az E P))∧ -40000≤((az E P)+(az E P)))),T_)::(decide ((aK E P (wX (ae X)))*(aK E P (wX (ae Y)))<0)==decide ((aK E P (wX (ae X)))*(aK E P (wX (ae Y)))<0),T_)::f_::f_::t_::t_::(decide (fV (aK E P (wX (ae X))) 1 (az E P))&&decide (fV (aK E P (wX (ae Y))) 1 (az E P)),T_)::(decide (aK E P (wX (ae Y))<0)==decide (aK E P (wX (ae Y))<0),T_)::(decide (aK E P (wX (ae X))<0)==decide (aK E P (wX (ae X))<0),T_)::(aj E P Y==1,F_)::EN E P m X Y na nb
theorem ar4(E P m X Y:Int)(na nb:Bool):jC E P m X Y [F_,F_,F_,F_,T_,F_,na,T_,F_,nb,F_,F_,T_,F_,F_,F_,T_,F_,F_,F_,F_,F_,F_,T_,F_,F_,F_,F_,F_,F_,T_] 1=some (dC (mY E P m ((aK E P (wX (ae X)))*(aK E P (wX (ae Y)))) (az E P+az E P)) (mZ E P m ((aK E P (wX (ae X)))*(aK E P (wX (ae Y)))) (az E P+az E P)),some (.fact 0),PD E P m X Y na nb):=by kernel_rfl
def PE(E P m X Y:Int)(na nb:Bool):L_:=t_::t_::t_::t_::t_::t_::(decide (aG E P),T_)::(aj E P Y==3,T_)::t_::(aj E P X==1,T_)::jk E P m X Y na nb
theorem ar5(E P m X Y:Int)(na nb:Bool):jC E P m X Y [F_,F_,F_,F_,T_,F_,na,T_,F_,nb,F_,F_,T_,F_,F_,F_,T_,F_,F_,F_,F_,T_,T_,T_] 1=some (dC (aV E P) 1,some (.fact 0),PE E P m X Y na nb):=by kernel_rfl
def PG(E P m X Y:Int)(na nb:Bool):L_:=t_::t_::t_::t_::t_::t_::(decide (aG E P),T_)::(aj E P Y==1,T_)::qX E P m X Y na nb
theorem ar7(E P m X Y:Int)(na nb:Bool):jC E P m X Y [F_,F_,F_,F_,T_,F_,na,T_,F_,nb,F_,F_,T_,F_,F_,F_,T_,F_,F_,F_,F_,F_,T_,T_,T_] 1=some (dC (aV E P) 1,some (.fact 0),PG E P m X Y na nb):=by kernel_rfl
def PH(E P m X Y:Int)(na nb:Bool):L_:=EO E P m X Y na nb
theorem ar9(E P m X Y:Int)(na nb:Bool):jC E P m X Y [F_,F_,F_,F_,T_,F_,na,T_,F_,nb,F_,F_,T_,F_,F_,F_,T_,F_,F_,F_,F_,F_,T_,F_,F_,T_,F_,T_,T_] 1=some (dC (wX (ae (aB E P))) 0,some (.fact 0),PH E P m X Y na nb):=by kernel_rfl
def PI(E P m X Y:Int)(na nb:Bool):L_:=EP E P m X Y na nb
theorem asa(E P m X Y:Int)(na nb:Bool):jC E P m X Y [F_,F_,F_,F_,T_,F_,na,T_,F_,nb,F_,F_,T_,F_,F_,F_,T_,F_,F_,F_,F_,F_,T_,F_,T_,T_,F_,T_,T_] 1=some (dC (wX (ae (aB E P))+ai E P) 0,some (.fact 0),PI E P m X Y na nb):=by kernel_rfl
def PK(E P m X Y:Int)(na nb:Bool):L_:=EO E P m X Y na nb
theorem asb(E P m X Y:Int)(na nb:Bool):jC E P m X Y [F_,F_,F_,F_,T_,F_,na,T_,F_,nb,F_,F_,T_,F_,F_,F_,T_,F_,F_,F_,F_,F_,T_,F_,F_,T_,F_,T_,T_] 1=some (dC (wX (ae (aB E P))) 0,some (.fact 0),PK E P m X Y na nb):=by kernel_rfl
def PL(E P m X Y:Int)(na nb:Bool):L_:=EP E P m X Y na nb
theorem asc(E P m X Y:Int)(na nb:Bool):jC E P m X Y [F_,F_,F_,F_,T_,F_,na,T_,F_,nb,F_,F_,T_,F_,F_,F_,T_,F_,F_,F_,F_,F_,T_,F_,T_,T_,F_,T_,T_] 1=some (dC (wX (ae (aB E P))+ai E P) 0,some (.fact 0),PL E P m X Y na nb):=by kernel_rfl
def PM(E P m X Y:Int)(na nb:Bool):L_:=t_::t_::t_::t_::t_::t_::(decide (aG E P)&&(wB (ae (aB E P))&&decide (wX (ae (aB E P))<ai E P)),T_)::(decide (aG E P),T_)::t_::f_::t_::t_::(aj E P Y==3,T_)::Dx E P m X Y na nb
theorem asg(E P m X Y:Int)(na nb:Bool):jC E P m X Y [F_,F_,F_,F_,T_,F_,na,T_,F_,nb,F_,F_,T_,F_,F_,F_,T_,F_,F_,F_,F_,F_,F_,F_,F_,T_,F_,T_,T_] 1=some (dC (wX (ae (aB E P))) 0,some (.fact 0),PM E P m X Y na nb):=by kernel_rfl
def PN(E P m X Y:Int)(na nb:Bool):L_:=t_::t_::t_::t_::t_::t_::(decide (aG E P)&&(wB (ae (aB E P))&&decide (wX (ae (aB E P))<ai E P)),T_)::(decide (aG E P),T_)::t_::f_::t_::t_::(aj E P Y==3,T_)::Dy E P m X Y na nb
theorem ash(E P m X Y:Int)(na nb:Bool):jC E P m X Y [F_,F_,F_,F_,T_,F_,na,T_,F_,nb,F_,F_,T_,F_,F_,F_,T_,F_,F_,F_,F_,F_,F_,T_,F_,T_,F_,T_,T_] 1=some (dC (wX (ae (aB E P))+ai E P) 0,some (.fact 0),PN E P m X Y na nb):=by kernel_rfl
def PO(E P m X Y:Int)(na nb:Bool):L_:=EQ E P m X Y na nb
theorem asi(E P m X Y:Int)(na nb:Bool):jC E P m X Y [F_,F_,F_,F_,T_,F_,na,T_,F_,nb,F_,F_,T_,F_,F_,F_,T_,F_,F_,F_,F_,T_,F_,F_,F_,F_,F_,T_,T_,T_] 1=some (dC (wX bC) 0,some (.fact 0),PO E P m X Y na nb):=by kernel_rfl
def PQ(E P m X Y:Int)(na nb:Bool):L_:=ER E P m X Y na nb
theorem asl(E P m X Y:Int)(na nb:Bool):jC E P m X Y [F_,F_,F_,F_,T_,F_,na,T_,F_,nb,F_,F_,T_,F_,F_,F_,T_,F_,F_,F_,F_,T_,F_,F_,T_,F_,F_,T_,T_,T_] 1=some (dC (wX bC+ai E P) 0,some (.fact 0),PQ E P m X Y na nb):=by kernel_rfl
def PR(E P m X Y:Int)(na nb:Bool):L_:=t_::t_::t_::t_::t_::t_::(decide (aG E P)&&(wB bC&&decide (wX bC<ai E P)),T_)::t_::t_::t_::(aj E P Y==1,T_)::Iy E P m X Y na nb
theorem asn(E P m X Y:Int)(na nb:Bool):jC E P m X Y [F_,F_,F_,F_,T_,F_,na,T_,F_,nb,F_,F_,T_,F_,F_,F_,T_,F_,F_,F_,F_,F_,F_,F_,F_,F_,F_,T_,T_,T_] 1=some (dC (wX bC) 0,some (.fact 0),PR E P m X Y na nb):=by kernel_rfl
def PS(E P m X Y:Int)(na nb:Bool):L_:=t_::t_::t_::t_::t_::t_::(decide (aG E P)&&(wB bC&&decide (wX bC<ai E P)),T_)::t_::t_::t_::(aj E P Y==1,T_)::EN E P m X Y na nb
theorem aso(E P m X Y:Int)(na nb:Bool):jC E P m X Y [F_,F_,F_,F_,T_,F_,na,T_,F_,nb,F_,F_,T_,F_,F_,F_,T_,F_,F_,F_,F_,F_,F_,T_,F_,F_,F_,T_,T_,T_] 1=some (dC (wX bC+ai E P) 0,some (.fact 0),PS E P m X Y na nb):=by kernel_rfl
def PT(E P m X Y:Int)(na nb:Bool):L_:=EQ E P m X Y na nb
theorem ast(E P m X Y:Int)(na nb:Bool):jC E P m X Y [F_,F_,F_,F_,T_,F_,na,T_,F_,nb,F_,F_,T_,F_,F_,F_,T_,F_,F_,F_,F_,T_,F_,F_,F_,F_,F_,T_,T_,T_] 1=some (dC (wX bC) 0,some (.fact 0),PT E P m X Y na nb):=by kernel_rfl
def PU(E P m X Y:Int)(na nb:Bool):L_:=ER E P m X Y na nb
theorem asu(E P m X Y:Int)(na nb:Bool):jC E P m X Y [F_,F_,F_,F_,T_,F_,na,T_,F_,nb,F_,F_,T_,F_,F_,F_,T_,F_,F_,F_,F_,T_,F_,F_,T_,F_,F_,T_,T_,T_] 1=some (dC (wX bC+ai E P) 0,some (.fact 0),PU E P m X Y na nb):=by kernel_rfl
def UU(E P m X Y:Int):L_:=[t_,t_,t_,t_,t_,(gq E P !=0,T_),t_]
theorem av3(E P m X Y:Int):jC E P m X Y [true,true,true] 1=some (jB 2,some (.fact 0),UU E P m X Y):=by kernel_rfl
def UV(E P m X Y:Int):L_:=[t_,t_,t_,t_,t_,(decide (m<0),T_),(gq E P !=0,F_),t_]
theorem av4(E P m X Y:Int):jC E P m X Y [F_,T_,T_,T_] 1=some (jB 2,some (.fact 0),UV E P m X Y):=by kernel_rfl
def UW(E P m X Y:Int):L_:=t_::t_::t_::t_::t_::(decide (m>4),T_)::fK E P m
theorem av6(E P m X Y:Int):jC E P m X Y [F_,F_,T_,T_,T_] 1=some (jB 2,some (.fact 0),UW E P m X Y):=by kernel_rfl
def UX(E P m X Y:Int):L_:=t_::t_::t_::(!decide (wX (ae X)/2^(IntKind.i64.wrap (E+P)).toNat/18446744073709551616=0∧wX (ae X)/2^(IntKind.i64.wrap (E+P)).toNat%18446744073709551616=0),T_)::fZ E P m X
theorem av8(E P m X Y:Int):jC E P m X Y [F_,F_,F_,F_,T_,T_,T_,T_] 1=some (jB 6,some (.fact 0),UX E P m X Y):=by kernel_rfl
def UY(E P m X Y:Int)(na:Bool):L_:=t_::t_::t_::(!decide (wX (ae Y)/2^(IntKind.i64.wrap (E+P)).toNat/18446744073709551616=0∧wX (ae Y)/2^(IntKind.i64.wrap (E+P)).toNat%18446744073709551616=0),T_)::gG E P m X Y na
theorem awc(E P m X Y:Int)(na:Bool):jC E P m X Y [F_,F_,F_,F_,T_,F_,na,T_,T_,T_,T_] 1=some (jB 6,some (.fact 0),UY E P m X Y na):=by kernel_rfl
theorem Px{P s:Int}(hP:2≤P)(h0:0≤s): ∃(f r:Int),s=f*2^(P-1).toNat+r∧0≤f∧0≤r∧r<2^(P-1).toNat∧ni P s=if f=0 then r else(2^(P-1).toNat+r)*2^(f-1).toNat:=by
 have hp:=au (P-1).toNat
 have h1:=Int.mul_ediv_add_emod s (2^(P-1).toNat)
 have h2:=Int.emod_nonneg s (Int.ne_of_gt hp)
 have h3:=Int.emod_lt_of_pos s hp
 have h4:0≤s/2^(P-1).toNat:=Int.ediv_nonneg h0 (Int.le_of_lt hp)
 refine⟨s/2^(P-1).toNat,s%2^(P-1).toNat,?_,h4,h2,h3,?_⟩
 ·rw[Int.mul_comm];omega
 ·unfold ni lK qw dQ
  generalize s/2^(P-1).toNat=f at*
  generalize s%2^(P-1).toNat=r at*
  generalize (2:Int)^(P-1).toNat=p at*
  by_cases hf:f=0
  ·subst hf
   rw[if_neg (by omega),if_neg (by omega),if_pos rfl]
   simp at h1⊢
   omega
  ·rw[if_pos (by omega),if_pos (by omega),if_neg hf]
   congr 1
   rw[Int.sub_mul,Int.mul_comm f p]
   omega
theorem arT{P s t:Int}(hP:2≤P)(h0:0≤s)(h1:s<t):ni P s<ni P t:=by
 obtain⟨f,r,rfl,f0,r0,r1,e1⟩:=Px hP h0
 obtain⟨g,q,rfl,g0,q0,q1,e2⟩:=Px hP (show 0≤t by omega)
 have hp:=au (P-1).toNat
 rw[e1,e2]
 generalize (2:Int)^(P-1).toNat=p at*
 have hfg:f≤g:=by
  apply Classical.byContradiction
  intro hn
  have:(g+1)*p≤f*p:=Int.mul_le_mul_of_nonneg_right (by omega) (by omega)
  rw[Int.add_mul,Int.one_mul]at this
  omega
 by_cases hg:g=0
 ·subst hg
  obtain rfl:f=0:=by omega
  rw[if_pos rfl,if_pos rfl];omega
 ·rw[if_neg hg]
  have hpg:=au (g-1).toNat
  have b2:p*2^(g-1).toNat≤(p+q)*2^(g-1).toNat:=Int.mul_le_mul_of_nonneg_right (by omega) (by omega)
  by_cases hf:f=0
  ·rw[if_pos hf]
   have:=Int.mul_le_mul_of_nonneg_left (show(1:Int)≤2^(g-1).toNat from hpg) (show 0≤p by omega)
   omega
  ·rw[if_neg hf]
   by_cases ayS:f=g
   ·subst ayS
    exact Int.mul_lt_mul_of_pos_right (by omega) hpg
   ·have e:(2:Int)^(g-1).toNat=2^(g-1-f).toNat*(2*2^(f-1).toNat):=by
     rw[←Int.mul_assoc,Int.mul_comm (2^_) 2,Int.mul_assoc,←Int.pow_add,show(g-1-f).toNat+(f-1).toNat=(g-1).toNat-1 by omega,Int.mul_comm,←Int.pow_succ]
     congr 1;omega
    have hpf:=au (f-1).toNat
    have b1:(p+r)*2^(f-1).toNat<(2*p)*2^(f-1).toNat:=Int.mul_lt_mul_of_pos_right (by omega) hpf
    have b3:(2*p)*2^(f-1).toNat≤p*2^(g-1).toNat:=by
     rw[e]
     have:=Int.mul_le_mul_of_nonneg_right (show(1:Int)≤2^(g-1-f).toNat from au _) (show(0:Int)≤2*2^(f-1).toNat by omega)
     have h5:=Int.mul_le_mul_of_nonneg_left this (show 0≤p by omega)
     rw[Int.one_mul]at h5
     rw[Int.mul_comm 2 p,Int.mul_assoc]
     exact h5
    omega
theorem aoc{P s:Int}(hP:2≤P)(h0:0<s):0<ni P s:=by
 have h1:=arT hP (Int.le_refl 0) h0
 have h2:ni P 0=0:=by unfold ni qw dQ;simp
 omega
def pq(E P:Int)(n:Bool):Int:=if n=true then ai E P else 0
theorem zJ{E P X:Int}(h:aG E P)(x0:0≤X)(x1:X<2*ai E P)(hk:kindOf E P X=1∨kindOf E P X=2):((aK E P X).natAbs:Int)<2^2200∧fV (aK E P X) 1 (az E P):=by
 have h1:=LK h x0 x1 hk
 have hbr:=dN h.1 h.2.1
 have hfe:az E P=1-aH E-P+1:=rfl
 have hP:=h.2.2.2.1
 have hP2:=h.2.2.1
 have h2:=rG (show(2*aH E-1+P).toNat≤2200 by omega)
 have h3:(2:Int)^2200<qs:=by
  unfold qs
  rw[show 2400=2200+199+1 from rfl,Int.pow_succ,Int.pow_add]
  have:=Int.mul_le_mul_of_nonneg_left (show(1:Int)≤2^199 from au 199) (Int.le_of_lt (au 2200))
  have:=au 2200
  omega
 have h4:(1:Int)<qs:=by unfold qs;exact LM
 exact⟨by omega,by omega,by omega,by omega,h4,by omega,by omega⟩
theorem xO{E P X:Int}(h:aG E P)(x0:0≤X)(x1:X<2*ai E P)(hk:kindOf E P X=2):aK E P X≠0:=by
 obtain⟨s0,s1⟩:=Gq (E:=E) (P:=P) x0 x1
 have hz:dG E P X≠0:=fun hz=>by
  unfold kindOf at hk
  rw[if_pos hz]at hk
  omega
 have hm:=aoc (P:=P) h.2.2.1 (show 0<dG E P X by omega)
 unfold aK
 rw[if_pos hk]
 unfold Fj
 split<;>omega
def mlW(E P m X Y:Int):Int:=
 if aO E P X∨aO E P Y then aV E P else if(kindOf E P X=1∧kindOf E P Y=3)∨(kindOf E P X=3∧kindOf E P Y=1)then aV E P else if kindOf E P X=3∨kindOf E P Y=3 then lH E P (ak E P X !=ak E P Y)else if kindOf E P X=1∨kindOf E P Y=1 then pq E P (ak E P X !=ak E P Y)else mY E P m (aK E P X*aK E P Y) (az E P+az E P)
def mF(E P m X Y:Int):Int:=
 if aO E P X∨aO E P Y then yj E P X Y else if(kindOf E P X=1∧kindOf E P Y=3)∨(kindOf E P X=3∧kindOf E P Y=1)then 1 else if kindOf E P X=3∨kindOf E P Y=3 then 0 else if kindOf E P X=1∨kindOf E P Y=1 then 0 else mZ E P m (aK E P X*aK E P Y) (az E P+az E P)
def ajX(E P m X Y:Int):Value:=if bi E P m [X,Y]=0 then dC (mlW E P m X Y) (mF E P m X Y)else jB (bi E P m [X,Y])
theorem ahJ{E P m X Y:Int}(x0:0≤X)(x1:X<aW)(y0:0≤Y)(y1:Y<aW):dU Tryz.prog TR 10 [.v (kH E P),.v (.int .i64 m),.v (ae X),.v (ae Y)] ⟨none,ajX E P m X Y⟩:=by
 have g:=Hw (kH E P) (.int .i64 m) (ae X) (ae Y) rfl rfl rfl rfl
 have ok:=rC arZ 6
 unfold ajX
 by_cases h:aG E P
 ·have hc:(gq E P !=0)=false:=by unfold gq;rw[if_pos h];rfl
  by_cases ml:m<0
  ·have eE:bi E P m [X,Y]=2:=by unfold bi;rw[if_pos (.inl ml)]
   rw[eE,if_neg (by decide)]
   have d2:decide (m<0)=true:=decide_eq_true ml
   exact af ok (av4 E P m X Y) (by simp only[UV,List.forall_mem_cons];(repeat' apply And.intro)<;>first|exact⟨⟩|with_reducible (first|rfl|assumption)|simp) (by simp) g rfl rfl
  have d2:decide (m<0)=false:=decide_eq_false ml
  by_cases mh:m>4
  ·have eE:bi E P m [X,Y]=2:=by unfold bi;rw[if_pos (.inr mh)]
   rw[eE,if_neg (by decide)]
   have d3:decide (m>4)=true:=decide_eq_true mh
   exact af ok (av6 E P m X Y) (by simp only[UW,fK,List.forall_mem_cons];(repeat' apply And.intro)<;>first|exact⟨⟩|with_reducible (first|rfl|assumption)|simp) (by simp) g rfl rfl
  have d3:decide (m>4)=false:=decide_eq_false mh
  have e0:bi E P m [X,Y]=vV E P [X,Y]:=by unfold bi;rw[if_neg (by omega)]
  rw[e0]
  unfold vV
  rw[if_pos h]
  obtain⟨nrX,AC,zX,SX⟩:=Gi h x0 x1
  obtain⟨nrY,OD,zY,zY'⟩:=Gi h y0 y1
  by_cases hX:X<2*ai E P
  ·have AC:=AC hX
   have zX:=zX hX
   by_cases hY:Y<2*ai E P
   ·have OD:=OD hY
    have zY:=zY hY
    rw[if_pos (all2.2 ⟨hX,hY⟩),if_pos rfl]
    have kX:=gu E P X
    have kY:=gu E P Y
    have nX:ak E P (wX (ae X))=ak E P X:=by rw[ag]
    have nY:ak E P (wX (ae Y))=ak E P Y:=by rw[ag]
    have hi:=dR h
    have hs:=dV h
    have hiS:aB E P<ai E P:=hi.2.1
    have m2:decide (aG E P)=true:=decide_eq_true h
    have sz:(decide (aG E P)&&(wB bC&&decide (wX bC<ai E P)))=true:=by
     rw[m2,show wB bC=true from rfl,show wX bC=0 from rfl,decide_eq_true (by omega)];rfl
    have sg:(decide (aG E P)&&(wB (ae (aB E P))&&decide (wX (ae (aB E P))<ai E P)))=true:=by
     rw[m2,dh (by omega) (by omega),ag,decide_eq_true hiS];rfl
    unfold mlW mF yj
    by_cases x4:kindOf E P X=4
    ·have d4:=fM x4
     have d5:=di (show¬kindOf E P X=5 by omega)
     rw[if_pos (show aO E P X∨aO E P Y from .inl (.inl x4)),if_pos (show aO E P X∨aO E P Y from .inl (.inl x4))]
     by_cases y5:kindOf E P Y=5
     ·have d6:=fM y5
      rw[if_pos (.inr y5)]
      exact af ok (avZ E P m X Y (ak E P (wX (ae X))) (ak E P (wX (ae Y)))) (by simp only[UO,fK,fZ,gG,gI,ES,List.forall_mem_cons];(repeat' apply And.intro)<;>first|exact⟨⟩|with_reducible (first|rfl|assumption)|simp) (by simp) g rfl rfl
     ·have d6:=di y5
      rw[if_neg (show¬(kindOf E P X=5∨kindOf E P Y=5)by omega)]
      exact af ok (avX E P m X Y (ak E P (wX (ae X))) (ak E P (wX (ae Y)))) (by simp only[UN,fK,fZ,gG,gI,ES,List.forall_mem_cons];(repeat' apply And.intro)<;>first|exact⟨⟩|with_reducible (first|rfl|assumption)|simp) (by simp) g rfl rfl
    have d4:=di x4
    by_cases x5:kindOf E P X=5
    ·have d5:=fM x5
     rw[if_pos (show aO E P X∨aO E P Y from .inl (.inr x5)),if_pos (show aO E P X∨aO E P Y from .inl (.inr x5)),if_pos (.inl x5)]
     exact af ok (avW E P m X Y (ak E P (wX (ae X))) (ak E P (wX (ae Y)))) (by simp only[UM,fK,fZ,gG,gI,List.forall_mem_cons];(repeat' apply And.intro)<;>first|exact⟨⟩|with_reducible (first|rfl|assumption)|simp) (by simp) g rfl rfl
    have d5:=di x5
    by_cases y4:kindOf E P Y=4
    ·have d6:=fM y4
     have d7:=di (show¬kindOf E P Y=5 by omega)
     rw[if_pos (show aO E P X∨aO E P Y from .inr (.inl y4)),if_pos (show aO E P X∨aO E P Y from .inr (.inl y4)),if_neg (show¬(kindOf E P X=5∨kindOf E P Y=5)by omega)]
     exact af ok (av1 E P m X Y (ak E P (wX (ae X))) (ak E P (wX (ae Y)))) (by simp only[UQ,fK,fZ,gG,gI,iZ,List.forall_mem_cons];(repeat' apply And.intro)<;>first|exact⟨⟩|with_reducible (first|rfl|assumption)|simp) (by simp) g rfl rfl
    have d6:=di y4
    by_cases y5:kindOf E P Y=5
    ·have d7:=fM y5
     rw[if_pos (show aO E P X∨aO E P Y from .inr (.inr y5)),if_pos (show aO E P X∨aO E P Y from .inr (.inr y5)),if_pos (.inr y5)]
     exact af ok (av2 E P m X Y (ak E P (wX (ae X))) (ak E P (wX (ae Y)))) (by simp only[UR,fK,fZ,gG,gI,iZ,List.forall_mem_cons];(repeat' apply And.intro)<;>first|exact⟨⟩|with_reducible (first|rfl|assumption)|simp) (by simp) g rfl rfl
    have d7:=di y5
    have hnn: ¬(aO E P X∨aO E P Y):=by unfold aO;omega
    rw[if_neg hnn,if_neg hnn]
    have hsn:(ak E P (wX (ae X)) !=ak E P (wX (ae Y)))=(ak E P X !=ak E P Y):=by rw[nX,nY]
    have rX:kindOf E P X=1∨kindOf E P X=2∨kindOf E P X=3:=by omega
    have rY:kindOf E P Y=1∨kindOf E P Y=2∨kindOf E P Y=3:=by omega
    rcases rX with kx|kx|kx
    ·rcases rY with ky|ky|ky
     ·have xJ:=fM (show kindOf E P X=1 by omega)
      have xK:=fM (show kindOf E P Y=1 by omega)
      have xM:=di (show¬kindOf E P X=3 by omega)
      have xN:=di (show¬kindOf E P Y=3 by omega)
      have dX2:=yw (show¬kindOf E P X=2 by omega)
      rw[if_neg (by omega),if_neg (by omega),if_pos (by omega),if_neg (by omega),if_neg (by omega),if_pos (by omega)]
      cases hn:(ak E P (wX (ae X)) !=ak E P (wX (ae Y)))
      ·exact af ok (ast E P m X Y (ak E P (wX (ae X))) (ak E P (wX (ae Y)))) (by simp only[PT,fK,fZ,gG,gI,iZ,jk,wE,EQ,List.forall_mem_cons];(repeat' apply And.intro)<;>first|exact⟨⟩|with_reducible (first|rfl|assumption)|simp) (by simp) g (by rw[←hsn,hn];unfold pq;rw[if_neg (by decide)];rw[show wX bC=0 from rfl]) rfl
      ·exact af ok (asu E P m X Y (ak E P (wX (ae X))) (ak E P (wX (ae Y)))) (by simp only[PU,fK,fZ,gG,gI,iZ,jk,wE,ER,List.forall_mem_cons];(repeat' apply And.intro)<;>first|exact⟨⟩|with_reducible (first|rfl|assumption)|simp) (by simp) g (by rw[←hsn,hn];unfold pq;rw[if_pos rfl];rw[show wX bC=0 from rfl];simp) rfl
     ·have xJ:=fM (show kindOf E P X=1 by omega)
      have xK:=di (show¬kindOf E P Y=1 by omega)
      have xM:=di (show¬kindOf E P X=3 by omega)
      have xN:=di (show¬kindOf E P Y=3 by omega)
      have dX2:=yw (show¬kindOf E P X=2 by omega)
      rw[if_neg (by omega),if_neg (by omega),if_pos (by omega),if_neg (by omega),if_neg (by omega),if_pos (by omega)]
      cases hn:(ak E P (wX (ae X)) !=ak E P (wX (ae Y)))
      ·exact af ok (asi E P m X Y (ak E P (wX (ae X))) (ak E P (wX (ae Y)))) (by simp only[PO,fK,fZ,gG,gI,iZ,jk,wE,EQ,List.forall_mem_cons];(repeat' apply And.intro)<;>first|exact⟨⟩|with_reducible (first|rfl|assumption)|simp) (by simp) g (by rw[←hsn,hn];unfold pq;rw[if_neg (by decide)];rw[show wX bC=0 from rfl]) rfl
      ·exact af ok (asl E P m X Y (ak E P (wX (ae X))) (ak E P (wX (ae Y)))) (by simp only[PQ,fK,fZ,gG,gI,iZ,jk,wE,ER,List.forall_mem_cons];(repeat' apply And.intro)<;>first|exact⟨⟩|with_reducible (first|rfl|assumption)|simp) (by simp) g (by rw[←hsn,hn];unfold pq;rw[if_pos rfl];rw[show wX bC=0 from rfl];simp) rfl
     ·have xJ:=fM (show kindOf E P X=1 by omega)
      have xK:=di (show¬kindOf E P Y=1 by omega)
      have xM:=di (show¬kindOf E P X=3 by omega)
      have xN:=fM (show kindOf E P Y=3 by omega)
      have dX2:=yw (show¬kindOf E P X=2 by omega)
      rw[if_pos (by omega),if_pos (by omega)]
      exact af ok (ar5 E P m X Y (ak E P (wX (ae X))) (ak E P (wX (ae Y)))) (by simp only[PE,fK,fZ,gG,gI,iZ,jk,List.forall_mem_cons];(repeat' apply And.intro)<;>first|exact⟨⟩|with_reducible (first|rfl|assumption)|simp) (by simp) g rfl rfl
    ·rcases rY with ky|ky|ky
     ·have xJ:=di (show¬kindOf E P X=1 by omega)
      have xK:=fM (show kindOf E P Y=1 by omega)
      have xM:=di (show¬kindOf E P X=3 by omega)
      have xN:=di (show¬kindOf E P Y=3 by omega)
      have dX2:=NC (show kindOf E P X=2 by omega)
      rw[if_neg (by omega),if_neg (by omega),if_pos (by omega),if_neg (by omega),if_neg (by omega),if_pos (by omega)]
      cases hn:(ak E P (wX (ae X)) !=ak E P (wX (ae Y)))
      ·exact af ok (asn E P m X Y (ak E P (wX (ae X))) (ak E P (wX (ae Y)))) (by simp only[PR,fK,fZ,gG,gI,iZ,jk,uC,Dx,Iy,List.forall_mem_cons];(repeat' apply And.intro)<;>first|exact⟨⟩|with_reducible (first|rfl|assumption)|simp) (by simp) g (by rw[←hsn,hn];unfold pq;rw[if_neg (by decide)];rw[show wX bC=0 from rfl]) rfl
      ·exact af ok (aso E P m X Y (ak E P (wX (ae X))) (ak E P (wX (ae Y)))) (by simp only[PS,fK,fZ,gG,gI,iZ,jk,uC,Dy,EN,List.forall_mem_cons];(repeat' apply And.intro)<;>first|exact⟨⟩|with_reducible (first|rfl|assumption)|simp) (by simp) g (by rw[←hsn,hn];unfold pq;rw[if_pos rfl];rw[show wX bC=0 from rfl];simp) rfl
     ·obtain⟨kX2,iX⟩:=zJ h x0 hX (.inr kx)
      obtain⟨kY2,iY⟩:=zJ h y0 hY (.inr ky)
      have hfr: -1300≤az E P∧az E P≤10:=by
       have hbr:=dN h.1 h.2.1
       have hP:=h.2.2.2.1
       have hP2:=h.2.2.1
       have hfe:az E P=1-aH E-P+1:=rfl
       omega
      have hm:((aK E P X*aK E P Y).natAbs:Int)<2^4400:=by
       rw[Int.natAbs_mul,Int.natCast_mul,show(4400:Nat)=2200+2200 from rfl,Int.pow_add]
       exact NP kX2 kY2 (by omega) (by omega)
      have hsm:(2:Int)^4400≤gz:=by unfold gz;exact rG (by omega)
      have fp0:(decide (fV (aK E P X) 1 (az E P))&&decide (fV (aK E P Y) 1 (az E P)))=true:=by rw[decide_eq_true iX,decide_eq_true iY];rfl
      have fp1:(decide (aG E P)&&(decide (0≤m∧m≤4)&&decide (inB (aK E P X*aK E P Y) (az E P+az E P)∧ -40000≤az E P+az E P)))=true:=by
       rw[m2,decide_eq_true (by omega),decide_eq_true ⟨⟨by omega,by omega,by omega,by omega⟩,by omega⟩];rfl
      have xJ:=di (show¬kindOf E P X=1 by omega)
      have xK:=di (show¬kindOf E P Y=1 by omega)
      have xM:=di (show¬kindOf E P X=3 by omega)
      have xN:=di (show¬kindOf E P Y=3 by omega)
      have dX2:=NC (show kindOf E P X=2 by omega)
      rw[if_neg (by omega),if_neg (by omega),if_neg (by omega),if_neg (by omega),if_neg (by omega),if_neg (by omega)]
      have t0:(decide (fV (aK E P (wX (ae X))) 1 (az E P))&&decide (fV (aK E P (wX (ae Y))) 1 (az E P)))=true:=by
       rw[ag,ag]
       exact fp0
      have t1:(decide (aG E P)&&(decide (0≤m∧m≤4)&&decide (inB ((aK E P (wX (ae X)))*(aK E P (wX (ae Y)))) ((az E P)+(az E P))∧ -40000≤((az E P)+(az E P)))))=true:=by
       rw[ag,ag]
       exact fp1
      cases hn:(ak E P (wX (ae X)) !=ak E P (wX (ae Y)))
      ·exact af ok (ar0 E P m X Y (ak E P (wX (ae X))) (ak E P (wX (ae Y)))) (by simp only[Pz,fK,fZ,gG,gI,iZ,jk,uC,Dx,Iy,List.forall_mem_cons];(repeat' apply And.intro)<;>first|exact⟨⟩|with_reducible (first|rfl|assumption)|simp) (by simp) g (by rw[ag,ag]) rfl
      ·exact af ok (ar4 E P m X Y (ak E P (wX (ae X))) (ak E P (wX (ae Y)))) (by simp only[PD,fK,fZ,gG,gI,iZ,jk,uC,Dy,EN,List.forall_mem_cons];(repeat' apply And.intro)<;>first|exact⟨⟩|with_reducible (first|rfl|assumption)|simp) (by simp) g (by rw[ag,ag]) rfl
     ·have xJ:=di (show¬kindOf E P X=1 by omega)
      have xK:=di (show¬kindOf E P Y=1 by omega)
      have xM:=di (show¬kindOf E P X=3 by omega)
      have xN:=fM (show kindOf E P Y=3 by omega)
      have dX2:=NC (show kindOf E P X=2 by omega)
      rw[if_neg (by omega),if_pos (by omega),if_neg (by omega),if_pos (by omega)]
      cases hn:(ak E P (wX (ae X)) !=ak E P (wX (ae Y)))
      ·exact af ok (asg E P m X Y (ak E P (wX (ae X))) (ak E P (wX (ae Y)))) (by simp only[PM,fK,fZ,gG,gI,iZ,jk,uC,Dx,List.forall_mem_cons];(repeat' apply And.intro)<;>first|exact⟨⟩|with_reducible (first|rfl|assumption)|simp) (by simp) g (by rw[ag,←hsn,hn];unfold lH;rw[if_neg (by decide),Int.add_zero]) rfl
      ·exact af ok (ash E P m X Y (ak E P (wX (ae X))) (ak E P (wX (ae Y)))) (by simp only[PN,fK,fZ,gG,gI,iZ,jk,uC,Dy,List.forall_mem_cons];(repeat' apply And.intro)<;>first|exact⟨⟩|with_reducible (first|rfl|assumption)|simp) (by simp) g (by rw[ag,←hsn,hn];unfold lH;rw[if_pos rfl]) rfl
    ·rcases rY with ky|ky|ky
     ·have xJ:=di (show¬kindOf E P X=1 by omega)
      have xK:=fM (show kindOf E P Y=1 by omega)
      have xM:=fM (show kindOf E P X=3 by omega)
      have xN:=di (show¬kindOf E P Y=3 by omega)
      have dX2:=yw (show¬kindOf E P X=2 by omega)
      rw[if_pos (by omega),if_pos (by omega)]
      exact af ok (ar7 E P m X Y (ak E P (wX (ae X))) (ak E P (wX (ae Y)))) (by simp only[PG,fK,fZ,gG,gI,iZ,jk,qX,List.forall_mem_cons];(repeat' apply And.intro)<;>first|exact⟨⟩|with_reducible (first|rfl|assumption)|simp) (by simp) g rfl rfl
     ·have xJ:=di (show¬kindOf E P X=1 by omega)
      have xK:=di (show¬kindOf E P Y=1 by omega)
      have xM:=fM (show kindOf E P X=3 by omega)
      have xN:=di (show¬kindOf E P Y=3 by omega)
      have dX2:=yw (show¬kindOf E P X=2 by omega)
      rw[if_neg (by omega),if_pos (by omega),if_neg (by omega),if_pos (by omega)]
      cases hn:(ak E P (wX (ae X)) !=ak E P (wX (ae Y)))
      ·exact af ok (ar9 E P m X Y (ak E P (wX (ae X))) (ak E P (wX (ae Y)))) (by simp only[PH,fK,fZ,gG,gI,iZ,jk,qX,EO,List.forall_mem_cons];(repeat' apply And.intro)<;>first|exact⟨⟩|with_reducible (first|rfl|assumption)|simp) (by simp) g (by rw[ag,←hsn,hn];unfold lH;rw[if_neg (by decide),Int.add_zero]) rfl
      ·exact af ok (asa E P m X Y (ak E P (wX (ae X))) (ak E P (wX (ae Y)))) (by simp only[PI,fK,fZ,gG,gI,iZ,jk,qX,EP,List.forall_mem_cons];(repeat' apply And.intro)<;>first|exact⟨⟩|with_reducible (first|rfl|assumption)|simp) (by simp) g (by rw[ag,←hsn,hn];unfold lH;rw[if_pos rfl]) rfl
     ·have xJ:=di (show¬kindOf E P X=1 by omega)
      have xK:=di (show¬kindOf E P Y=1 by omega)
      have xM:=fM (show kindOf E P X=3 by omega)
      have xN:=fM (show kindOf E P Y=3 by omega)
      have dX2:=yw (show¬kindOf E P X=2 by omega)
      rw[if_neg (by omega),if_pos (by omega),if_neg (by omega),if_pos (by omega)]
      cases hn:(ak E P (wX (ae X)) !=ak E P (wX (ae Y)))
      ·exact af ok (asb E P m X Y (ak E P (wX (ae X))) (ak E P (wX (ae Y)))) (by simp only[PK,fK,fZ,gG,gI,iZ,jk,qX,EO,List.forall_mem_cons];(repeat' apply And.intro)<;>first|exact⟨⟩|with_reducible (first|rfl|assumption)|simp) (by simp) g (by rw[ag,←hsn,hn];unfold lH;rw[if_neg (by decide),Int.add_zero]) rfl
      ·exact af ok (asc E P m X Y (ak E P (wX (ae X))) (ak E P (wX (ae Y)))) (by simp only[PL,fK,fZ,gG,gI,iZ,jk,qX,EP,List.forall_mem_cons];(repeat' apply And.intro)<;>first|exact⟨⟩|with_reducible (first|rfl|assumption)|simp) (by simp) g (by rw[ag,←hsn,hn];unfold lH;rw[if_pos rfl]) rfl
   ·have zY:=zY' hY
    rw[if_neg (fun hc=>hY (all2.1 hc).2),if_neg (by decide)]
    exact af ok (awc E P m X Y (ak E P (wX (ae X)))) (by simp only[UY,fK,fZ,gG,List.forall_mem_cons];(repeat' apply And.intro)<;>first|exact⟨⟩|with_reducible (first|rfl|assumption)|simp) (by simp) g rfl rfl
  ·have zX:=SX hX
   rw[if_neg (fun hc=>hX (all2.1 hc).1),if_neg (by decide)]
   exact af ok (av8 E P m X Y) (by simp only[UX,fK,fZ,List.forall_mem_cons];(repeat' apply And.intro)<;>first|exact⟨⟩|with_reducible (first|rfl|assumption)|simp) (by simp) g rfl rfl
 ·have hc:(gq E P !=0)=true:=by unfold gq;rw[if_neg h];rfl
  have eE:bi E P m [X,Y]=2:=by
   unfold bi vV
   rw[if_neg h]
   split<;>rfl
  rw[eE,if_neg (by decide)]
  exact af ok (av3 E P m X Y) (by simp only[UU,List.forall_mem_cons];(repeat' apply And.intro)<;>first|exact⟨⟩|with_reducible (first|rfl|assumption)|simp) (by simp) g rfl rfl
def kN(E P G Q m X:Int):Int:=if¬aG E P∨m<0∨m>4∨ ¬aG G Q then 2 else if X<2*ai E P then 0 else 6
def AO(E P G Q m X:Int):Int:=
 if aO E P X then aV G Q else if kindOf E P X=3 then lH G Q (ak E P X)else if kindOf E P X=1 then pq G Q (ak E P X)else mY G Q m (aK E P X) (az E P)
def AP(E P G Q m X:Int):Int:=
 if kindOf E P X=5 then 1 else if kindOf E P X=2 then mZ G Q m (aK E P X) (az E P)else 0
def aaB(E P G Q m X:Int):Value:=if kN E P G Q m X=0 then dC (AO E P G Q m X) (AP E P G Q m X)else jB (kN E P G Q m X)
theorem adK{E P G Q m X:Int}(x0:0≤X)(x1:X<aW):dU Tryz.prog TR 27 [.v (kH E P),.v (kH G Q),.v (.int .i64 m),.v (ae X)] ⟨none,aaB E P G Q m X⟩:=by
 have g:=Hw (kH E P) (kH G Q) (.int .i64 m) (ae X) rfl rfl rfl rfl
 have ok:=rC aql 6
 unfold aaB
 by_cases h:aG E P
 ·have hc:(gq E P !=0)=false:=by unfold gq;rw[if_pos h];rfl
  by_cases ml:m<0
  ·have eE:kN E P G Q m X=2:=by unfold kN;rw[if_pos (.inr (.inl ml))]
   rw[eE,if_neg (by decide)]
   have d2:decide (m<0)=true:=decide_eq_true ml
   exact af ok (avq E P G Q m X) (by simp only[Tu,List.forall_mem_cons];(repeat' apply And.intro)<;>first|exact⟨⟩|with_reducible (first|rfl|assumption)|simp) (by simp) g rfl rfl
  have d2:decide (m<0)=false:=decide_eq_false ml
  by_cases mh:m>4
  ·have eE:kN E P G Q m X=2:=by unfold kN;rw[if_pos (.inr (.inr (.inl mh)))]
   rw[eE,if_neg (by decide)]
   have d3:decide (m>4)=true:=decide_eq_true mh
   exact af ok (avs E P G Q m X) (by simp only[Tv,nD,List.forall_mem_cons];(repeat' apply And.intro)<;>first|exact⟨⟩|with_reducible (first|rfl|assumption)|simp) (by simp) g rfl rfl
  have d3:decide (m>4)=false:=decide_eq_false mh
  by_cases hG:aG G Q
  ·have hc2:(gq G Q !=0)=false:=by unfold gq;rw[if_pos hG];rfl
   have e0:kN E P G Q m X=if X<2*ai E P then 0 else 6:=by
    unfold kN
    rw[if_neg]
    rintro(hh|hh|hh|hh)
    ·exact hh h
    ·exact ml hh
    ·exact mh hh
    ·exact hh hG
   rw[e0]
   obtain⟨nrX,AC,zX,SX⟩:=Gi h x0 x1
   by_cases hX:X<2*ai E P
   ·have AC:=AC hX
    have zX:=zX hX
    rw[if_pos hX,if_pos rfl]
    have kX:=gu E P X
    have nX:ak E P (wX (ae X))=ak E P X:=by rw[ag]
    have hi:=dR hG
    have hs:=dV hG
    have hiS:aB G Q<ai G Q:=hi.2.1
    have m2:decide (aG G Q)=true:=decide_eq_true hG
    have sg:(decide (aG G Q)&&(wB (ae (aB G Q))&&decide (wX (ae (aB G Q))<ai G Q)))=true:=by
     rw[m2,dh (by omega) (by omega),ag,decide_eq_true hiS];rfl
    have sz:(decide (aG G Q)&&(wB bC&&decide (wX bC<ai G Q)))=true:=by
     rw[m2,show wB bC=true from rfl,show wX bC=0 from rfl,decide_eq_true (by omega)];rfl
    unfold AO AP
    by_cases x4:kindOf E P X=4
    ·have d4:=fM x4
     have d5:=di (show¬kindOf E P X=5 by omega)
     rw[if_pos (show aO E P X from .inl x4),if_neg (by omega),if_neg (by omega)]
     exact af ok (ayw E P G Q m X (ak E P (wX (ae X)))) (by simp only[YD,nD,oD,qf,qg,yV,List.forall_mem_cons];(repeat' apply And.intro)<;>first|exact⟨⟩|with_reducible (first|rfl|assumption)|simp) (by simp) g rfl rfl
    have d4:=di x4
    by_cases x5:kindOf E P X=5
    ·have d5:=fM x5
     rw[if_pos (show aO E P X from .inr x5),if_pos x5]
     exact af ok (ayx E P G Q m X (ak E P (wX (ae X)))) (by simp only[YE,nD,oD,qf,qg,yV,List.forall_mem_cons];(repeat' apply And.intro)<;>first|exact⟨⟩|with_reducible (first|rfl|assumption)|simp) (by simp) g rfl rfl
    have d5:=di x5
    have hnn: ¬aO E P X:=by unfold aO;omega
    rw[if_neg hnn,if_neg x5]
    by_cases x3:kindOf E P X=3
    ·have d8:=fM x3
     have d1:=di (show¬kindOf E P X=1 by omega)
     rw[if_pos x3,if_neg (by omega)]
     cases hx:ak E P (wX (ae X))
     ·exact af ok (avj E P G Q m X) (by simp only[Tj,nD,oD,qf,qg,Hz,List.forall_mem_cons];(repeat' apply And.intro)<;>first|exact⟨⟩|with_reducible (first|rfl|assumption)|simp) (by simp) g (by rw[ag,←nX,hx];unfold lH;rw[if_neg (by decide),Int.add_zero]) rfl
     ·exact af ok (avk E P G Q m X) (by simp only[Tm,nD,oD,qf,qg,H6,List.forall_mem_cons];(repeat' apply And.intro)<;>first|exact⟨⟩|with_reducible (first|rfl|assumption)|simp) (by simp) g (by rw[ag,←nX,hx];unfold lH;rw[if_pos rfl]) rfl
    have d8:=di x3
    rw[if_neg x3]
    by_cases z1:kindOf E P X=1
    ·have d1:=fM z1
     rw[if_pos z1,if_neg (by omega)]
     cases hx:ak E P (wX (ae X))
     ·exact af ok (avl E P G Q m X) (by simp only[Tn,nD,oD,qf,qg,Hz,List.forall_mem_cons];(repeat' apply And.intro)<;>first|exact⟨⟩|with_reducible (first|rfl|assumption)|simp) (by simp) g (by rw[←nX,hx];unfold pq;rw[if_neg (by decide)];rfl) rfl
     ·exact af ok (avm E P G Q m X) (by simp only[Tq,nD,oD,qf,qg,H6,List.forall_mem_cons];(repeat' apply And.intro)<;>first|exact⟨⟩|with_reducible (first|rfl|assumption)|simp) (by simp) g (by rw[←nX,hx];unfold pq;rw[if_pos rfl,show wX bC=0 from rfl,Int.zero_add]) rfl
    have d1:=di z1
    rw[if_neg z1,if_pos (by omega)]
    have ib:=aqm h x0 hX (.inr (by omega))
    have hfr: -40000≤az E P:=by
     have hbr:=dN h.1 h.2.1
     have hP:=h.2.2.2.1
     have hfe:az E P=1-aH E-P+1:=rfl
     omega
    have tf:(decide (aG G Q)&&(decide (0≤m∧m≤4)&&decide (inB (aK E P (wX (ae X))) (az E P)∧ -40000≤(az E P))))=true:=by
     rw[ag,m2,decide_eq_true (by omega),decide_eq_true ⟨ib,hfr⟩];rfl
    exact af ok (ayy E P G Q m X (ak E P (wX (ae X)))) (by simp only[YF,nD,oD,qf,qg,yV,List.forall_mem_cons];(repeat' apply And.intro)<;>first|exact⟨⟩|with_reducible (first|rfl|assumption)|simp) (by simp) g (by rw[ag]) rfl
   ·have zX:=SX hX
    rw[if_neg hX,if_neg (by decide)]
    exact af ok (avu E P G Q m X) (by simp only[TA,nD,oD,qf,List.forall_mem_cons];(repeat' apply And.intro)<;>first|exact⟨⟩|with_reducible (first|rfl|assumption)|simp) (by simp) g rfl rfl
  ·have hc2:(gq G Q !=0)=true:=by unfold gq;rw[if_neg hG];rfl
   have eE:kN E P G Q m X=2:=by unfold kN;rw[if_pos (.inr (.inr (.inr hG)))]
   rw[eE,if_neg (by decide)]
   exact af ok (avt E P G Q m X) (by simp only[Tz,nD,oD,List.forall_mem_cons];(repeat' apply And.intro)<;>first|exact⟨⟩|with_reducible (first|rfl|assumption)|simp) (by simp) g rfl rfl
 ·have hc:(gq E P !=0)=true:=by unfold gq;rw[if_neg h];rfl
  have eE:kN E P G Q m X=2:=by unfold kN;rw[if_pos (.inl h)]
  rw[eE,if_neg (by decide)]
  exact af ok (avp E P G Q m X) (by simp only[Tt,List.forall_mem_cons];(repeat' apply And.intro)<;>first|exact⟨⟩|with_reducible (first|rfl|assumption)|simp) (by simp) g rfl rfl
def dvC:CF→St→Option (Value×St):=orElse xE (orElse qI (orElse uq (orElse aqK (orElse YL (orElse ru (orElse nK Dj))))))
theorem aqL:aN Tryz.prog dvC:=aA qJ (aA mr (aA o9 (aA anN (aA aaW (aA nM (aA lG xH))))))
noncomputable def jl(E P m X Y:Int)(an:List Bool)(n:Nat):Option (Value×Option gW×List (Bool×Bool)):=dJ Tryz.prog TR (nest dvC 6) 1000 12 [.v (kH E P),.v (.int .i64 m),.v (ae X),.v (ae Y)] an n
def dZ(E P m:Int):L_:=[(decide (m<0),F_),(gq E P !=0,F_),t_]
def eQ(E P m X:Int):L_:=(wB (ae X)&&decide (0≤(IntKind.i64.wrap (E+P))∧(IntKind.i64.wrap (E+P))≤127),T_)::t_::t_::t_::t_::t_::f_::t_::t_::(decide (m>4),F_)::dZ E P m
def fH(E P m X Y:Int)(na:Bool):L_:=(wB (ae Y)&&decide (0≤(IntKind.i64.wrap (E+P))∧(IntKind.i64.wrap (E+P))≤127),T_)::t_::t_::t_::t_::t_::t_::t_::(ak E P (wX (ae X)),na)::(decide (aG E P)&&(wB (ae X)&&decide (wX (ae X)<2*ai E P)),T_)::(!decide (wX (ae X)/2^(IntKind.i64.wrap (E+P)).toNat/18446744073709551616=0∧wX (ae X)/2^(IntKind.i64.wrap (E+P)).toNat%18446744073709551616=0),F_)::eQ E P m X
def fJ(E P m X Y:Int)(na nb:Bool):L_:=t_::t_::t_::t_::f_::f_::t_::t_::(ak E P (wX (ae Y)),nb)::(decide (aG E P)&&(wB (ae Y)&&decide (wX (ae Y)<2*ai E P)),T_)::(!decide (wX (ae Y)/2^(IntKind.i64.wrap (E+P)).toNat/18446744073709551616=0∧wX (ae Y)/2^(IntKind.i64.wrap (E+P)).toNat%18446744073709551616=0),F_)::fH E P m X Y na
def gZ(E P m X Y:Int)(na nb:Bool):L_:=t_::t_::t_::t_::(aj E P X==5,F_)::t_::(aj E P X==5,F_)::t_::(aj E P X==4,F_)::fJ E P m X Y na nb
def iM(E P m X Y:Int)(na nb:Bool):L_:=t_::t_::t_::t_::f_::(aj E P Y==5,F_)::t_::(aj E P Y==5,F_)::t_::(aj E P Y==4,F_)::gZ E P m X Y na nb
def Dq(E P m X Y:Int)(na nb:Bool):L_:=t_::(aj E P X==aj E P Y,T_)::t_::t_::(na !=nb,F_)::iM E P m X Y na nb
def Ic(E P m X Y:Int)(na nb:Bool):L_:=t_::t_::t_::t_::t_::t_::(decide (aG E P),T_)::(aj E P X !=2,T_)::Dq E P m X Y na nb
def rP(E P m X Y:Int)(na nb:Bool):L_:=t_::(aj E P X==aj E P Y,F_)::t_::t_::(na !=nb,F_)::iM E P m X Y na nb
def Ie(E P m X Y:Int)(na nb:Bool):L_:=t_::t_::t_::t_::t_::(decide (aG E P)&&(wB (ae (aB E P))&&decide (wX (ae (aB E P))<ai E P)),T_)::(decide (aG E P),T_)::(aj E P X==3,T_)::rP E P m X Y na nb
def zK(E P m X Y:Int)(na nb:Bool):L_:=t_::(aj E P Y==1,F_)::t_::(aj E P X==3,F_)::rP E P m X Y na nb
def Ez(E P m X Y:Int)(na nb:Bool):L_:=t_::t_::t_::t_::t_::(decide (aG E P)&&(wB bC&&decide (wX bC<ai E P)),T_)::(aj E P X==1,T_)::zK E P m X Y na nb
def zL(E P m X Y:Int)(na nb:Bool):L_:=t_::(aj E P X==aj E P Y,T_)::t_::t_::(na !=nb,T_)::iM E P m X Y na nb
def EC(E P m X Y:Int)(na nb:Bool):L_:=t_::t_::t_::t_::t_::t_::(decide (aG E P),T_)::(aj E P X !=2,T_)::zL E P m X Y na nb
def pG(E P m X Y:Int)(na nb:Bool):L_:=t_::(aj E P X==aj E P Y,F_)::t_::t_::(na !=nb,T_)::iM E P m X Y na nb
def ED(E P m X Y:Int)(na nb:Bool):L_:=t_::t_::t_::t_::t_::(decide (aG E P)&&(wB (ae (aB E P))&&decide (wX (ae (aB E P))<ai E P)),T_)::(decide (aG E P),T_)::(aj E P X==3,T_)::pG E P m X Y na nb
def zM(E P m X Y:Int)(na nb:Bool):L_:=t_::(aj E P Y==1,F_)::t_::(aj E P X==3,F_)::pG E P m X Y na nb
def EE(E P m X Y:Int)(na nb:Bool):L_:=t_::t_::t_::t_::t_::(decide (aG E P)&&(wB bC&&decide (wX bC<ai E P)),T_)::(aj E P X==1,T_)::zM E P m X Y na nb
def EF(E P m X Y:Int)(na nb:Bool):L_:=t_::t_::t_::t_::(aj E P X==5,F_)::t_::(aj E P X==4,T_)::fJ E P m X Y na nb
def TG(E P m X Y:Int)(na nb:Bool):L_:=t_::t_::t_::t_::t_::(decide (aG E P),T_)::f_::t_::t_::t_::(aj E P X==5,T_)::t_::(aj E P X==5,T_)::t_::(aj E P X==4,F_)::fJ E P m X Y na nb
theorem avD(E P m X Y:Int)(na nb:Bool):jl E P m X Y [F_,F_,F_,F_,T_,F_,na,T_,F_,nb,F_,F_,T_,F_,T_,T_,T_,F_,T_] 1=some (dC (aV E P) 1,some (.fact 0),TG E P m X Y na nb):=by kernel_rfl
def TI(E P m X Y:Int)(na nb:Bool):L_:=t_::t_::t_::t_::(decide (aG E P),T_)::f_::f_::(aj E P Y==5,F_)::EF E P m X Y na nb
theorem avE(E P m X Y:Int)(na nb:Bool):jl E P m X Y [F_,F_,F_,F_,T_,F_,na,T_,F_,nb,F_,F_,T_,T_,F_,T_,F_,F_,F_,T_] 1=some (dC (aV E P) 0,some (.fact 0),TI E P m X Y na nb):=by kernel_rfl
def TJ(E P m X Y:Int)(na nb:Bool):L_:=t_::t_::t_::t_::t_::(decide (aG E P),T_)::f_::(aj E P Y==5,T_)::EF E P m X Y na nb
theorem avF(E P m X Y:Int)(na nb:Bool):jl E P m X Y [F_,F_,F_,F_,T_,F_,na,T_,F_,nb,F_,F_,T_,T_,F_,T_,T_,F_,T_] 1=some (dC (aV E P) 1,some (.fact 0),TJ E P m X Y na nb):=by kernel_rfl
def TK(E P m X Y:Int)(na nb:Bool):L_:=t_::t_::t_::t_::(decide (aG E P),T_)::f_::f_::(aj E P Y==5,F_)::t_::(aj E P Y==4,T_)::gZ E P m X Y na nb
theorem avG(E P m X Y:Int)(na nb:Bool):jl E P m X Y [F_,F_,F_,F_,T_,F_,na,T_,F_,nb,F_,F_,T_,F_,F_,F_,T_,T_,F_,F_,F_,T_] 1=some (dC (aV E P) 0,some (.fact 0),TK E P m X Y na nb):=by kernel_rfl
def TM(E P m X Y:Int)(na nb:Bool):L_:=t_::t_::t_::t_::t_::(decide (aG E P),T_)::f_::(aj E P Y==5,T_)::t_::(aj E P Y==5,T_)::t_::(aj E P Y==4,F_)::gZ E P m X Y na nb
theorem avH(E P m X Y:Int)(na nb:Bool):jl E P m X Y [F_,F_,F_,F_,T_,F_,na,T_,F_,nb,F_,F_,T_,F_,F_,F_,T_,F_,T_,T_,F_,T_] 1=some (dC (aV E P) 1,some (.fact 0),TM E P m X Y na nb):=by kernel_rfl
def OH(E P m X Y:Int)(na nb:Bool):L_:=t_::t_::t_::t_::t_::(decide (aG E P)&&(decide (0≤m∧m≤4)&&decide (fV (su (aK E P (wX (ae X))) (aK E P (wX (ae Y)))) (zN (aK E P (wX (ae Y)))) ((az E P)-(az E P))∧ -2000≤((az E P)-(az E P))∧((az E P)-(az E P))≤2000)),T_)::(decide (su (aK E P (wX (ae X))) (aK E P (wX (ae Y)))<0)==decide (su (aK E P (wX (ae X))) (aK E P (wX (ae Y)))<0),T_)::t_::(decide (fV (aK E P (wX (ae X))) 1 (az E P))&&(decide (fV (aK E P (wX (ae Y))) 1 (az E P))&&decide ((aK E P (wX (ae Y)))≠0)),T_)::(decide (aK E P (wX (ae Y))<0)==decide (aK E P (wX (ae Y))<0),T_)::(decide (aK E P (wX (ae X))<0)==decide (aK E P (wX (ae X))<0),T_)::(aj E P Y==3,F_)::t_::(aj E P X==1,F_)::t_::(aj E P Y==1,F_)::t_::(aj E P X==3,F_)::t_::(aj E P X !=2,F_)::Dq E P m X Y na nb
theorem aqM(E P m X Y:Int)(na nb:Bool):jl E P m X Y [F_,F_,F_,F_,T_,F_,na,T_,F_,nb,F_,F_,T_,F_,F_,F_,T_,F_,F_,F_,F_,F_,T_,F_,F_,F_,F_,F_,T_] 1=some (dC (pI E P m (su (aK E P (wX (ae X))) (aK E P (wX (ae Y)))) (zN (aK E P (wX (ae Y)))) (az E P-az E P)) (pJ E P m (su (aK E P (wX (ae X))) (aK E P (wX (ae Y)))) (zN (aK E P (wX (ae Y)))) (az E P-az E P)),some (.fact 0),OH E P m X Y na nb):=by kernel_rfl
def OI(E P m X Y:Int)(na nb:Bool):L_:=t_::t_::t_::t_::t_::(decide (aG E P)&&(decide (0≤m∧m≤4)&&decide (fV (su (aK E P (wX (ae X))) (aK E P (wX (ae Y)))) (zN (aK E P (wX (ae Y)))) ((az E P)-(az E P))∧ -2000≤((az E P)-(az E P))∧((az E P)-(az E P))≤2000)),T_)::(decide (su (aK E P (wX (ae X))) (aK E P (wX (ae Y)))<0)==decide (su (aK E P (wX (ae X))) (aK E P (wX (ae Y)))<0),T_)::t_::(decide (fV (aK E P (wX (ae X))) 1 (az E P))&&(decide (fV (aK E P (wX (ae Y))) 1 (az E P))&&decide ((aK E P (wX (ae Y)))≠0)),T_)::(decide (aK E P (wX (ae Y))<0)==decide (aK E P (wX (ae Y))<0),T_)::(decide (aK E P (wX (ae X))<0)==decide (aK E P (wX (ae X))<0),T_)::(aj E P Y==3,F_)::t_::(aj E P X==1,F_)::t_::(aj E P Y==1,F_)::t_::(aj E P X==3,F_)::t_::(aj E P X !=2,F_)::zL E P m X Y na nb
theorem aqN(E P m X Y:Int)(na nb:Bool):jl E P m X Y [F_,F_,F_,F_,T_,F_,na,T_,F_,nb,F_,F_,T_,F_,F_,F_,T_,F_,F_,F_,F_,T_,T_,F_,F_,F_,F_,F_,T_] 1=some (dC (pI E P m (su (aK E P (wX (ae X))) (aK E P (wX (ae Y)))) (zN (aK E P (wX (ae Y)))) (az E P-az E P)) (pJ E P m (su (aK E P (wX (ae X))) (aK E P (wX (ae Y)))) (zN (aK E P (wX (ae Y)))) (az E P-az E P)),some (.fact 0),OI E P m X Y na nb):=by kernel_rfl
def OJ(E P m X Y:Int)(na nb:Bool):L_:=Ic E P m X Y na nb
theorem aqO(E P m X Y:Int)(na nb:Bool):jl E P m X Y [F_,F_,F_,F_,T_,F_,na,T_,F_,nb,F_,F_,T_,F_,F_,F_,T_,F_,F_,F_,F_,F_,T_,T_,T_] 1=some (dC (aV E P) 1,some (.fact 0),OJ E P m X Y na nb):=by kernel_rfl
def OL(E P m X Y:Int)(na nb:Bool):L_:=EC E P m X Y na nb
theorem aqQ(E P m X Y:Int)(na nb:Bool):jl E P m X Y [F_,F_,F_,F_,T_,F_,na,T_,F_,nb,F_,F_,T_,F_,F_,F_,T_,F_,F_,F_,F_,T_,T_,T_,T_] 1=some (dC (aV E P) 1,some (.fact 0),OL E P m X Y na nb):=by kernel_rfl
def OM(E P m X Y:Int)(na nb:Bool):L_:=Ic E P m X Y na nb
theorem aqR(E P m X Y:Int)(na nb:Bool):jl E P m X Y [F_,F_,F_,F_,T_,F_,na,T_,F_,nb,F_,F_,T_,F_,F_,F_,T_,F_,F_,F_,F_,F_,T_,T_,T_] 1=some (dC (aV E P) 1,some (.fact 0),OM E P m X Y na nb):=by kernel_rfl
def OO(E P m X Y:Int)(na nb:Bool):L_:=EC E P m X Y na nb
theorem aqS(E P m X Y:Int)(na nb:Bool):jl E P m X Y [F_,F_,F_,F_,T_,F_,na,T_,F_,nb,F_,F_,T_,F_,F_,F_,T_,F_,F_,F_,F_,T_,T_,T_,T_] 1=some (dC (aV E P) 1,some (.fact 0),OO E P m X Y na nb):=by kernel_rfl
def OQ(E P m X Y:Int)(na nb:Bool):L_:=Ie E P m X Y na nb
theorem aqU(E P m X Y:Int)(na nb:Bool):jl E P m X Y [F_,F_,F_,F_,T_,F_,na,T_,F_,nb,F_,F_,T_,F_,F_,F_,T_,F_,F_,F_,F_,F_,F_,T_,T_] 1=some (dC (wX (ae (aB E P))) 0,some (.fact 0),OQ E P m X Y na nb):=by kernel_rfl
def OT(E P m X Y:Int)(na nb:Bool):L_:=ED E P m X Y na nb
theorem aqV(E P m X Y:Int)(na nb:Bool):jl E P m X Y [F_,F_,F_,F_,T_,F_,na,T_,F_,nb,F_,F_,T_,F_,F_,F_,T_,F_,F_,F_,F_,T_,F_,T_,T_] 1=some (dC (wX (ae (aB E P))+ai E P) 0,some (.fact 0),OT E P m X Y na nb):=by kernel_rfl
def OU(E P m X Y:Int)(na nb:Bool):L_:=Ie E P m X Y na nb
theorem aqY(E P m X Y:Int)(na nb:Bool):jl E P m X Y [F_,F_,F_,F_,T_,F_,na,T_,F_,nb,F_,F_,T_,F_,F_,F_,T_,F_,F_,F_,F_,F_,F_,T_,T_] 1=some (dC (wX (ae (aB E P))) 0,some (.fact 0),OU E P m X Y na nb):=by kernel_rfl
def OV(E P m X Y:Int)(na nb:Bool):L_:=ED E P m X Y na nb
theorem aq0(E P m X Y:Int)(na nb:Bool):jl E P m X Y [F_,F_,F_,F_,T_,F_,na,T_,F_,nb,F_,F_,T_,F_,F_,F_,T_,F_,F_,F_,F_,T_,F_,T_,T_] 1=some (dC (wX (ae (aB E P))+ai E P) 0,some (.fact 0),OV E P m X Y na nb):=by kernel_rfl
def OW(E P m X Y:Int)(na nb:Bool):L_:=t_::t_::t_::t_::t_::(decide (aG E P)&&(wB (ae (aB E P))&&decide (wX (ae (aB E P))<ai E P)),T_)::(decide (aG E P),T_)::(aj E P Y==1,T_)::t_::(aj E P X==3,F_)::rP E P m X Y na nb
theorem aq1(E P m X Y:Int)(na nb:Bool):jl E P m X Y [F_,F_,F_,F_,T_,F_,na,T_,F_,nb,F_,F_,T_,F_,F_,F_,T_,F_,F_,F_,F_,F_,F_,F_,T_,T_] 1=some (dC (wX (ae (aB E P))) 2,some (.fact 0),OW E P m X Y na nb):=by kernel_rfl
def OX(E P m X Y:Int)(na nb:Bool):L_:=t_::t_::t_::t_::t_::(decide (aG E P)&&(wB (ae (aB E P))&&decide (wX (ae (aB E P))<ai E P)),T_)::(decide (aG E P),T_)::(aj E P Y==1,T_)::t_::(aj E P X==3,F_)::pG E P m X Y na nb
theorem aq2(E P m X Y:Int)(na nb:Bool):jl E P m X Y [F_,F_,F_,F_,T_,F_,na,T_,F_,nb,F_,F_,T_,F_,F_,F_,T_,F_,F_,F_,F_,T_,F_,F_,T_,T_] 1=some (dC (wX (ae (aB E P))+ai E P) 2,some (.fact 0),OX E P m X Y na nb):=by kernel_rfl
def OY(E P m X Y:Int)(na nb:Bool):L_:=t_::t_::t_::t_::t_::(decide (aG E P)&&(wB bC&&decide (wX bC<ai E P)),T_)::(aj E P Y==3,T_)::t_::(aj E P X==1,F_)::zK E P m X Y na nb
theorem aq4(E P m X Y:Int)(na nb:Bool):jl E P m X Y [F_,F_,F_,F_,T_,F_,na,T_,F_,nb,F_,F_,T_,F_,F_,F_,T_,F_,F_,F_,F_,F_,F_,F_,F_,F_,T_,T_] 1=some (dC (wX bC) 0,some (.fact 0),OY E P m X Y na nb):=by kernel_rfl
def OZ(E P m X Y:Int)(na nb:Bool):L_:=t_::t_::t_::t_::t_::(decide (aG E P)&&(wB bC&&decide (wX bC<ai E P)),T_)::(aj E P Y==3,T_)::t_::(aj E P X==1,F_)::zM E P m X Y na nb
theorem aq5(E P m X Y:Int)(na nb:Bool):jl E P m X Y [F_,F_,F_,F_,T_,F_,na,T_,F_,nb,F_,F_,T_,F_,F_,F_,T_,F_,F_,F_,F_,T_,F_,F_,F_,F_,T_,T_] 1=some (dC (wX bC+ai E P) 0,some (.fact 0),OZ E P m X Y na nb):=by kernel_rfl
def O0(E P m X Y:Int)(na nb:Bool):L_:=Ez E P m X Y na nb
theorem aq6(E P m X Y:Int)(na nb:Bool):jl E P m X Y [F_,F_,F_,F_,T_,F_,na,T_,F_,nb,F_,F_,T_,F_,F_,F_,T_,F_,F_,F_,F_,F_,F_,F_,F_,T_,T_] 1=some (dC (wX bC) 0,some (.fact 0),O0 E P m X Y na nb):=by kernel_rfl
def O3(E P m X Y:Int)(na nb:Bool):L_:=EE E P m X Y na nb
theorem aq7(E P m X Y:Int)(na nb:Bool):jl E P m X Y [F_,F_,F_,F_,T_,F_,na,T_,F_,nb,F_,F_,T_,F_,F_,F_,T_,F_,F_,F_,F_,T_,F_,F_,F_,T_,T_] 1=some (dC (wX bC+ai E P) 0,some (.fact 0),O3 E P m X Y na nb):=by kernel_rfl
def O4(E P m X Y:Int)(na nb:Bool):L_:=Ez E P m X Y na nb
theorem aq8(E P m X Y:Int)(na nb:Bool):jl E P m X Y [F_,F_,F_,F_,T_,F_,na,T_,F_,nb,F_,F_,T_,F_,F_,F_,T_,F_,F_,F_,F_,F_,F_,F_,F_,T_,T_] 1=some (dC (wX bC) 0,some (.fact 0),O4 E P m X Y na nb):=by kernel_rfl
def O5(E P m X Y:Int)(na nb:Bool):L_:=EE E P m X Y na nb
theorem aq9(E P m X Y:Int)(na nb:Bool):jl E P m X Y [F_,F_,F_,F_,T_,F_,na,T_,F_,nb,F_,F_,T_,F_,F_,F_,T_,F_,F_,F_,F_,T_,F_,F_,F_,T_,T_] 1=some (dC (wX bC+ai E P) 0,some (.fact 0),O5 E P m X Y na nb):=by kernel_rfl
def TN(E P m X Y:Int):L_:=[t_,t_,t_,t_,t_,(gq E P !=0,T_),t_]
theorem avI(E P m X Y:Int):jl E P m X Y [true,true,true] 1=some (jB 2,some (.fact 0),TN E P m X Y):=by kernel_rfl
def TP(E P m X Y:Int):L_:=[t_,t_,t_,t_,t_,(decide (m<0),T_),(gq E P !=0,F_),t_]
theorem avJ(E P m X Y:Int):jl E P m X Y [F_,T_,T_,T_] 1=some (jB 2,some (.fact 0),TP E P m X Y):=by kernel_rfl
def TQ(E P m X Y:Int):L_:=t_::t_::t_::t_::t_::(decide (m>4),T_)::dZ E P m
theorem avK(E P m X Y:Int):jl E P m X Y [F_,F_,T_,T_,T_] 1=some (jB 2,some (.fact 0),TQ E P m X Y):=by kernel_rfl
def TS(E P m X Y:Int):L_:=t_::t_::t_::(!decide (wX (ae X)/2^(IntKind.i64.wrap (E+P)).toNat/18446744073709551616=0∧wX (ae X)/2^(IntKind.i64.wrap (E+P)).toNat%18446744073709551616=0),T_)::eQ E P m X
theorem avL(E P m X Y:Int):jl E P m X Y [F_,F_,F_,F_,T_,T_,T_,T_] 1=some (jB 6,some (.fact 0),TS E P m X Y):=by kernel_rfl
def TU(E P m X Y:Int)(na:Bool):L_:=t_::t_::t_::(!decide (wX (ae Y)/2^(IntKind.i64.wrap (E+P)).toNat/18446744073709551616=0∧wX (ae Y)/2^(IntKind.i64.wrap (E+P)).toNat%18446744073709551616=0),T_)::fH E P m X Y na
theorem avM(E P m X Y:Int)(na:Bool):jl E P m X Y [F_,F_,F_,F_,T_,F_,na,T_,T_,T_,T_] 1=some (jB 6,some (.fact 0),TU E P m X Y na):=by kernel_rfl
def AZ(E P m X Y:Int):Int:=
 if aO E P X∨aO E P Y then aV E P else if kindOf E P X=kindOf E P Y∧kindOf E P X≠2 then aV E P else if kindOf E P X=3∨kindOf E P Y=1 then lH E P (ak E P X !=ak E P Y)else if kindOf E P X=1∨kindOf E P Y=3 then pq E P (ak E P X !=ak E P Y)else pI E P m (su (aK E P X) (aK E P Y)) (zN (aK E P Y)) 0
def A7(E P m X Y:Int):Int:=
 if aO E P X∨aO E P Y then yj E P X Y else if kindOf E P X=kindOf E P Y∧kindOf E P X≠2 then 1 else if kindOf E P X=3 then 0 else if kindOf E P Y=1 then 2 else if kindOf E P X=1∨kindOf E P Y=3 then 0 else pJ E P m (su (aK E P X) (aK E P Y)) (zN (aK E P Y)) 0
def ajz(E P m X Y:Int):Value:=if bi E P m [X,Y]=0 then dC (AZ E P m X Y) (A7 E P m X Y)else jB (bi E P m [X,Y])
theorem ahk{E P m X Y:Int}(x0:0≤X)(x1:X<aW)(y0:0≤Y)(y1:Y<aW):dU Tryz.prog TR 12 [.v (kH E P),.v (.int .i64 m),.v (ae X),.v (ae Y)] ⟨none,ajz E P m X Y⟩:=by
 have g:=Hw (kH E P) (.int .i64 m) (ae X) (ae Y) rfl rfl rfl rfl
 have ok:=rC aqL 6
 unfold ajz
 by_cases h:aG E P
 ·have hc:(gq E P !=0)=false:=by unfold gq;rw[if_pos h];rfl
  by_cases ml:m<0
  ·have eE:bi E P m [X,Y]=2:=by unfold bi;rw[if_pos (.inl ml)]
   rw[eE,if_neg (by decide)]
   have d2:decide (m<0)=true:=decide_eq_true ml
   exact af ok (avJ E P m X Y) (by simp only[TP,List.forall_mem_cons];(repeat' apply And.intro)<;>first|exact⟨⟩|with_reducible (first|rfl|assumption)|simp) (by simp) g rfl rfl
  have d2:decide (m<0)=false:=decide_eq_false ml
  by_cases mh:m>4
  ·have eE:bi E P m [X,Y]=2:=by unfold bi;rw[if_pos (.inr mh)]
   rw[eE,if_neg (by decide)]
   have d3:decide (m>4)=true:=decide_eq_true mh
   exact af ok (avK E P m X Y) (by simp only[TQ,dZ,List.forall_mem_cons];(repeat' apply And.intro)<;>first|exact⟨⟩|with_reducible (first|rfl|assumption)|simp) (by simp) g rfl rfl
  have d3:decide (m>4)=false:=decide_eq_false mh
  have e0:bi E P m [X,Y]=vV E P [X,Y]:=by unfold bi;rw[if_neg (by omega)]
  rw[e0]
  unfold vV
  rw[if_pos h]
  obtain⟨nrX,AC,zX,SX⟩:=Gi h x0 x1
  obtain⟨nrY,OD,zY,zY'⟩:=Gi h y0 y1
  by_cases hX:X<2*ai E P
  ·have AC:=AC hX
   have zX:=zX hX
   by_cases hY:Y<2*ai E P
   ·have OD:=OD hY
    have zY:=zY hY
    rw[if_pos (all2.2 ⟨hX,hY⟩),if_pos rfl]
    have kX:=gu E P X
    have kY:=gu E P Y
    have nX:ak E P (wX (ae X))=ak E P X:=by rw[ag]
    have nY:ak E P (wX (ae Y))=ak E P Y:=by rw[ag]
    have hi:=dR h
    have hs:=dV h
    have hiS:aB E P<ai E P:=hi.2.1
    have m2:decide (aG E P)=true:=decide_eq_true h
    have sz:(decide (aG E P)&&(wB bC&&decide (wX bC<ai E P)))=true:=by
     rw[m2,show wB bC=true from rfl,show wX bC=0 from rfl,decide_eq_true (by omega)];rfl
    have sg:(decide (aG E P)&&(wB (ae (aB E P))&&decide (wX (ae (aB E P))<ai E P)))=true:=by
     rw[m2,dh (by omega) (by omega),ag,decide_eq_true hiS];rfl
    unfold AZ A7 yj
    by_cases x4:kindOf E P X=4
    ·have d4:=fM x4
     have d5:=di (show¬kindOf E P X=5 by omega)
     rw[if_pos (show aO E P X∨aO E P Y from .inl (.inl x4)),if_pos (show aO E P X∨aO E P Y from .inl (.inl x4))]
     by_cases y5:kindOf E P Y=5
     ·have d6:=fM y5
      rw[if_pos (.inr y5)]
      exact af ok (avF E P m X Y (ak E P (wX (ae X))) (ak E P (wX (ae Y)))) (by simp only[TJ,dZ,eQ,fH,fJ,EF,List.forall_mem_cons];(repeat' apply And.intro)<;>first|exact⟨⟩|with_reducible (first|rfl|assumption)|simp) (by simp) g rfl rfl
     ·have d6:=di y5
      rw[if_neg (show¬(kindOf E P X=5∨kindOf E P Y=5)by omega)]
      exact af ok (avE E P m X Y (ak E P (wX (ae X))) (ak E P (wX (ae Y)))) (by simp only[TI,dZ,eQ,fH,fJ,EF,List.forall_mem_cons];(repeat' apply And.intro)<;>first|exact⟨⟩|with_reducible (first|rfl|assumption)|simp) (by simp) g rfl rfl
    have d4:=di x4
    by_cases x5:kindOf E P X=5
    ·have d5:=fM x5
     rw[if_pos (show aO E P X∨aO E P Y from .inl (.inr x5)),if_pos (show aO E P X∨aO E P Y from .inl (.inr x5)),if_pos (.inl x5)]
     exact af ok (avD E P m X Y (ak E P (wX (ae X))) (ak E P (wX (ae Y)))) (by simp only[TG,dZ,eQ,fH,fJ,List.forall_mem_cons];(repeat' apply And.intro)<;>first|exact⟨⟩|with_reducible (first|rfl|assumption)|simp) (by simp) g rfl rfl
    have d5:=di x5
    by_cases y4:kindOf E P Y=4
    ·have d6:=fM y4
     have d7:=di (show¬kindOf E P Y=5 by omega)
     rw[if_pos (show aO E P X∨aO E P Y from .inr (.inl y4)),if_pos (show aO E P X∨aO E P Y from .inr (.inl y4)),if_neg (show¬(kindOf E P X=5∨kindOf E P Y=5)by omega)]
     exact af ok (avG E P m X Y (ak E P (wX (ae X))) (ak E P (wX (ae Y)))) (by simp only[TK,dZ,eQ,fH,fJ,gZ,List.forall_mem_cons];(repeat' apply And.intro)<;>first|exact⟨⟩|with_reducible (first|rfl|assumption)|simp) (by simp) g rfl rfl
    have d6:=di y4
    by_cases y5:kindOf E P Y=5
    ·have d7:=fM y5
     rw[if_pos (show aO E P X∨aO E P Y from .inr (.inr y5)),if_pos (show aO E P X∨aO E P Y from .inr (.inr y5)),if_pos (.inr y5)]
     exact af ok (avH E P m X Y (ak E P (wX (ae X))) (ak E P (wX (ae Y)))) (by simp only[TM,dZ,eQ,fH,fJ,gZ,List.forall_mem_cons];(repeat' apply And.intro)<;>first|exact⟨⟩|with_reducible (first|rfl|assumption)|simp) (by simp) g rfl rfl
    have d7:=di y5
    have hnn: ¬(aO E P X∨aO E P Y):=by unfold aO;omega
    rw[if_neg hnn,if_neg hnn]
    have hsn:(ak E P (wX (ae X)) !=ak E P (wX (ae Y)))=(ak E P X !=ak E P Y):=by rw[nX,nY]
    have rX:kindOf E P X=1∨kindOf E P X=2∨kindOf E P X=3:=by omega
    have rY:kindOf E P Y=1∨kindOf E P Y=2∨kindOf E P Y=3:=by omega
    rcases rX with kx|kx|kx
    ·rcases rY with ky|ky|ky
     ·have xJ:=fM (show kindOf E P X=1 by omega)
      have xK:=fM (show kindOf E P Y=1 by omega)
      have xM:=di (show¬kindOf E P X=3 by omega)
      have xN:=di (show¬kindOf E P Y=3 by omega)
      have dX2:=yw (show¬kindOf E P X=2 by omega)
      have O6:(aj E P X==aj E P Y)=true:=by unfold aj;rw[ag,ag];rw[show kindOf E P X=kindOf E P Y by omega];simp
      rw[if_pos (by omega),if_pos (by omega)]
      cases hn:(ak E P (wX (ae X)) !=ak E P (wX (ae Y)))
      ·exact af ok (aqR E P m X Y (ak E P (wX (ae X))) (ak E P (wX (ae Y)))) (by simp only[OM,dZ,eQ,fH,fJ,gZ,iM,Dq,Ic,List.forall_mem_cons];(repeat' apply And.intro)<;>first|exact⟨⟩|with_reducible (first|rfl|assumption)|simp) (by simp) g rfl rfl
      ·exact af ok (aqS E P m X Y (ak E P (wX (ae X))) (ak E P (wX (ae Y)))) (by simp only[OO,dZ,eQ,fH,fJ,gZ,iM,zL,EC,List.forall_mem_cons];(repeat' apply And.intro)<;>first|exact⟨⟩|with_reducible (first|rfl|assumption)|simp) (by simp) g rfl rfl
     ·have xJ:=fM (show kindOf E P X=1 by omega)
      have xK:=di (show¬kindOf E P Y=1 by omega)
      have xM:=di (show¬kindOf E P X=3 by omega)
      have xN:=di (show¬kindOf E P Y=3 by omega)
      have dX2:=yw (show¬kindOf E P X=2 by omega)
      have O6:(aj E P X==aj E P Y)=false:=by unfold aj;rw[ag,ag];rw[beq_eq_false_iff_ne];omega
      rw[if_neg (by omega),if_neg (by omega),if_pos (by omega),if_neg (by omega),if_neg (by omega),if_neg (by omega),if_pos (by omega)]
      cases hn:(ak E P (wX (ae X)) !=ak E P (wX (ae Y)))
      ·exact af ok (aq8 E P m X Y (ak E P (wX (ae X))) (ak E P (wX (ae Y)))) (by simp only[O4,dZ,eQ,fH,fJ,gZ,iM,rP,zK,Ez,List.forall_mem_cons];(repeat' apply And.intro)<;>first|exact⟨⟩|with_reducible (first|rfl|assumption)|simp) (by simp) g (by rw[←hsn,hn];unfold pq;rw[if_neg (by decide)];rw[show wX bC=0 from rfl]) rfl
      ·exact af ok (aq9 E P m X Y (ak E P (wX (ae X))) (ak E P (wX (ae Y)))) (by simp only[O5,dZ,eQ,fH,fJ,gZ,iM,pG,zM,EE,List.forall_mem_cons];(repeat' apply And.intro)<;>first|exact⟨⟩|with_reducible (first|rfl|assumption)|simp) (by simp) g (by rw[←hsn,hn];unfold pq;rw[if_pos rfl];rw[show wX bC=0 from rfl];simp) rfl
     ·have xJ:=fM (show kindOf E P X=1 by omega)
      have xK:=di (show¬kindOf E P Y=1 by omega)
      have xM:=di (show¬kindOf E P X=3 by omega)
      have xN:=fM (show kindOf E P Y=3 by omega)
      have dX2:=yw (show¬kindOf E P X=2 by omega)
      have O6:(aj E P X==aj E P Y)=false:=by unfold aj;rw[ag,ag];rw[beq_eq_false_iff_ne];omega
      rw[if_neg (by omega),if_neg (by omega),if_pos (by omega),if_neg (by omega),if_neg (by omega),if_neg (by omega),if_pos (by omega)]
      cases hn:(ak E P (wX (ae X)) !=ak E P (wX (ae Y)))
      ·exact af ok (aq6 E P m X Y (ak E P (wX (ae X))) (ak E P (wX (ae Y)))) (by simp only[O0,dZ,eQ,fH,fJ,gZ,iM,rP,zK,Ez,List.forall_mem_cons];(repeat' apply And.intro)<;>first|exact⟨⟩|with_reducible (first|rfl|assumption)|simp) (by simp) g (by rw[←hsn,hn];unfold pq;rw[if_neg (by decide)];rw[show wX bC=0 from rfl]) rfl
      ·exact af ok (aq7 E P m X Y (ak E P (wX (ae X))) (ak E P (wX (ae Y)))) (by simp only[O3,dZ,eQ,fH,fJ,gZ,iM,pG,zM,EE,List.forall_mem_cons];(repeat' apply And.intro)<;>first|exact⟨⟩|with_reducible (first|rfl|assumption)|simp) (by simp) g (by rw[←hsn,hn];unfold pq;rw[if_pos rfl];rw[show wX bC=0 from rfl];simp) rfl
    ·rcases rY with ky|ky|ky
     ·have xJ:=di (show¬kindOf E P X=1 by omega)
      have xK:=fM (show kindOf E P Y=1 by omega)
      have xM:=di (show¬kindOf E P X=3 by omega)
      have xN:=di (show¬kindOf E P Y=3 by omega)
      have dX2:=NC (show kindOf E P X=2 by omega)
      have O6:(aj E P X==aj E P Y)=false:=by unfold aj;rw[ag,ag];rw[beq_eq_false_iff_ne];omega
      rw[if_neg (by omega),if_pos (by omega),if_neg (by omega),if_neg (by omega),if_pos (by omega)]
      cases hn:(ak E P (wX (ae X)) !=ak E P (wX (ae Y)))
      ·exact af ok (aq1 E P m X Y (ak E P (wX (ae X))) (ak E P (wX (ae Y)))) (by simp only[OW,dZ,eQ,fH,fJ,gZ,iM,rP,List.forall_mem_cons];(repeat' apply And.intro)<;>first|exact⟨⟩|with_reducible (first|rfl|assumption)|simp) (by simp) g (by rw[ag,←hsn,hn];unfold lH;rw[if_neg (by decide),Int.add_zero]) rfl
      ·exact af ok (aq2 E P m X Y (ak E P (wX (ae X))) (ak E P (wX (ae Y)))) (by simp only[OX,dZ,eQ,fH,fJ,gZ,iM,pG,List.forall_mem_cons];(repeat' apply And.intro)<;>first|exact⟨⟩|with_reducible (first|rfl|assumption)|simp) (by simp) g (by rw[ag,←hsn,hn];unfold lH;rw[if_pos rfl]) rfl
     ·obtain⟨kX2,iX⟩:=zJ h x0 hX (.inr kx)
      obtain⟨kY2,iY⟩:=zJ h y0 hY (.inr ky)
      have hfr: -1300≤az E P∧az E P≤10:=by
       have hbr:=dN h.1 h.2.1
       have hP:=h.2.2.2.1
       have hP2:=h.2.2.1
       have hfe:az E P=1-aH E-P+1:=rfl
       omega
      have yn:=xO h y0 hY ky
      have fp0:(decide (fV (aK E P X) 1 (az E P))&&(decide (fV (aK E P Y) 1 (az E P))&&decide (aK E P Y≠0)))=true:=by rw[decide_eq_true iX,decide_eq_true iY,decide_eq_true yn];rfl
      have fp1:(decide (aG E P)&&(decide (0≤m∧m≤4)&&decide (fV (su (aK E P X) (aK E P Y)) (zN (aK E P Y)) (az E P-az E P)∧ -2000≤az E P-az E P∧az E P-az E P≤2000)))=true:=by
       obtain⟨q1,q2,_⟩:=iX
       obtain⟨q3,q4,_⟩:=iY
       rw[m2,decide_eq_true (by omega),decide_eq_true ⟨⟨by unfold su;split<;>omega,by unfold su;split<;>omega,by unfold zN;omega,by unfold zN;omega,by omega,by omega⟩,by omega,by omega⟩];rfl
      have xJ:=di (show¬kindOf E P X=1 by omega)
      have xK:=di (show¬kindOf E P Y=1 by omega)
      have xM:=di (show¬kindOf E P X=3 by omega)
      have xN:=di (show¬kindOf E P Y=3 by omega)
      have dX2:=NC (show kindOf E P X=2 by omega)
      have O6:(aj E P X==aj E P Y)=true:=by unfold aj;rw[ag,ag];rw[show kindOf E P X=kindOf E P Y by omega];simp
      rw[if_neg (by omega),if_neg (by omega),if_neg (by omega),if_neg (by omega),if_neg (by omega),if_neg (by omega),if_neg (by omega)]
      have t0:(decide (fV (aK E P (wX (ae X))) 1 (az E P))&&(decide (fV (aK E P (wX (ae Y))) 1 (az E P))&&decide ((aK E P (wX (ae Y)))≠0)))=true:=by
       rw[ag,ag]
       exact fp0
      have t1:(decide (aG E P)&&(decide (0≤m∧m≤4)&&decide (fV (su (aK E P (wX (ae X))) (aK E P (wX (ae Y)))) (zN (aK E P (wX (ae Y)))) ((az E P)-(az E P))∧ -2000≤((az E P)-(az E P))∧((az E P)-(az E P))≤2000)))=true:=by
       rw[ag,ag]
       exact fp1
      cases hn:(ak E P (wX (ae X)) !=ak E P (wX (ae Y)))
      ·exact af ok (aqM E P m X Y (ak E P (wX (ae X))) (ak E P (wX (ae Y)))) (by simp only[OH,dZ,eQ,fH,fJ,gZ,iM,Dq,List.forall_mem_cons];(repeat' apply And.intro)<;>first|exact⟨⟩|with_reducible (first|rfl|assumption)|simp) (by simp) g (by rw[ag,ag];rw[Int.sub_self]) rfl
      ·exact af ok (aqN E P m X Y (ak E P (wX (ae X))) (ak E P (wX (ae Y)))) (by simp only[OI,dZ,eQ,fH,fJ,gZ,iM,zL,List.forall_mem_cons];(repeat' apply And.intro)<;>first|exact⟨⟩|with_reducible (first|rfl|assumption)|simp) (by simp) g (by rw[ag,ag];rw[Int.sub_self]) rfl
     ·have xJ:=di (show¬kindOf E P X=1 by omega)
      have xK:=di (show¬kindOf E P Y=1 by omega)
      have xM:=di (show¬kindOf E P X=3 by omega)
      have xN:=fM (show kindOf E P Y=3 by omega)
      have dX2:=NC (show kindOf E P X=2 by omega)
      have O6:(aj E P X==aj E P Y)=false:=by unfold aj;rw[ag,ag];rw[beq_eq_false_iff_ne];omega
      rw[if_neg (by omega),if_neg (by omega),if_pos (by omega),if_neg (by omega),if_neg (by omega),if_neg (by omega),if_pos (by omega)]
      cases hn:(ak E P (wX (ae X)) !=ak E P (wX (ae Y)))
      ·exact af ok (aq4 E P m X Y (ak E P (wX (ae X))) (ak E P (wX (ae Y)))) (by simp only[OY,dZ,eQ,fH,fJ,gZ,iM,rP,zK,List.forall_mem_cons];(repeat' apply And.intro)<;>first|exact⟨⟩|with_reducible (first|rfl|assumption)|simp) (by simp) g (by rw[←hsn,hn];unfold pq;rw[if_neg (by decide)];rw[show wX bC=0 from rfl]) rfl
      ·exact af ok (aq5 E P m X Y (ak E P (wX (ae X))) (ak E P (wX (ae Y)))) (by simp only[OZ,dZ,eQ,fH,fJ,gZ,iM,pG,zM,List.forall_mem_cons];(repeat' apply And.intro)<;>first|exact⟨⟩|with_reducible (first|rfl|assumption)|simp) (by simp) g (by rw[←hsn,hn];unfold pq;rw[if_pos rfl];rw[show wX bC=0 from rfl];simp) rfl
    ·rcases rY with ky|ky|ky
     ·have xJ:=di (show¬kindOf E P X=1 by omega)
      have xK:=fM (show kindOf E P Y=1 by omega)
      have xM:=fM (show kindOf E P X=3 by omega)
      have xN:=di (show¬kindOf E P Y=3 by omega)
      have dX2:=yw (show¬kindOf E P X=2 by omega)
      have O6:(aj E P X==aj E P Y)=false:=by unfold aj;rw[ag,ag];rw[beq_eq_false_iff_ne];omega
      rw[if_neg (by omega),if_pos (by omega),if_neg (by omega),if_pos (by omega)]
      cases hn:(ak E P (wX (ae X)) !=ak E P (wX (ae Y)))
      ·exact af ok (aqY E P m X Y (ak E P (wX (ae X))) (ak E P (wX (ae Y)))) (by simp only[OU,dZ,eQ,fH,fJ,gZ,iM,rP,Ie,List.forall_mem_cons];(repeat' apply And.intro)<;>first|exact⟨⟩|with_reducible (first|rfl|assumption)|simp) (by simp) g (by rw[ag,←hsn,hn];unfold lH;rw[if_neg (by decide),Int.add_zero]) rfl
      ·exact af ok (aq0 E P m X Y (ak E P (wX (ae X))) (ak E P (wX (ae Y)))) (by simp only[OV,dZ,eQ,fH,fJ,gZ,iM,pG,ED,List.forall_mem_cons];(repeat' apply And.intro)<;>first|exact⟨⟩|with_reducible (first|rfl|assumption)|simp) (by simp) g (by rw[ag,←hsn,hn];unfold lH;rw[if_pos rfl]) rfl
     ·have xJ:=di (show¬kindOf E P X=1 by omega)
      have xK:=di (show¬kindOf E P Y=1 by omega)
      have xM:=fM (show kindOf E P X=3 by omega)
      have xN:=di (show¬kindOf E P Y=3 by omega)
      have dX2:=yw (show¬kindOf E P X=2 by omega)
      have O6:(aj E P X==aj E P Y)=false:=by unfold aj;rw[ag,ag];rw[beq_eq_false_iff_ne];omega
      rw[if_neg (by omega),if_pos (by omega),if_neg (by omega),if_pos (by omega)]
      cases hn:(ak E P (wX (ae X)) !=ak E P (wX (ae Y)))
      ·exact af ok (aqU E P m X Y (ak E P (wX (ae X))) (ak E P (wX (ae Y)))) (by simp only[OQ,dZ,eQ,fH,fJ,gZ,iM,rP,Ie,List.forall_mem_cons];(repeat' apply And.intro)<;>first|exact⟨⟩|with_reducible (first|rfl|assumption)|simp) (by simp) g (by rw[ag,←hsn,hn];unfold lH;rw[if_neg (by decide),Int.add_zero]) rfl
      ·exact af ok (aqV E P m X Y (ak E P (wX (ae X))) (ak E P (wX (ae Y)))) (by simp only[OT,dZ,eQ,fH,fJ,gZ,iM,pG,ED,List.forall_mem_cons];(repeat' apply And.intro)<;>first|exact⟨⟩|with_reducible (first|rfl|assumption)|simp) (by simp) g (by rw[ag,←hsn,hn];unfold lH;rw[if_pos rfl]) rfl
     ·have xJ:=di (show¬kindOf E P X=1 by omega)
      have xK:=di (show¬kindOf E P Y=1 by omega)
      have xM:=fM (show kindOf E P X=3 by omega)
      have xN:=fM (show kindOf E P Y=3 by omega)
      have dX2:=yw (show¬kindOf E P X=2 by omega)
      have O6:(aj E P X==aj E P Y)=true:=by unfold aj;rw[ag,ag];rw[show kindOf E P X=kindOf E P Y by omega];simp
      rw[if_pos (by omega),if_pos (by omega)]
      cases hn:(ak E P (wX (ae X)) !=ak E P (wX (ae Y)))
      ·exact af ok (aqO E P m X Y (ak E P (wX (ae X))) (ak E P (wX (ae Y)))) (by simp only[OJ,dZ,eQ,fH,fJ,gZ,iM,Dq,Ic,List.forall_mem_cons];(repeat' apply And.intro)<;>first|exact⟨⟩|with_reducible (first|rfl|assumption)|simp) (by simp) g rfl rfl
      ·exact af ok (aqQ E P m X Y (ak E P (wX (ae X))) (ak E P (wX (ae Y)))) (by simp only[OL,dZ,eQ,fH,fJ,gZ,iM,zL,EC,List.forall_mem_cons];(repeat' apply And.intro)<;>first|exact⟨⟩|with_reducible (first|rfl|assumption)|simp) (by simp) g rfl rfl
   ·have zY:=zY' hY
    rw[if_neg (fun hc=>hY (all2.1 hc).2),if_neg (by decide)]
    exact af ok (avM E P m X Y (ak E P (wX (ae X)))) (by simp only[TU,dZ,eQ,fH,List.forall_mem_cons];(repeat' apply And.intro)<;>first|exact⟨⟩|with_reducible (first|rfl|assumption)|simp) (by simp) g rfl rfl
  ·have zX:=SX hX
   rw[if_neg (fun hc=>hX (all2.1 hc).1),if_neg (by decide)]
   exact af ok (avL E P m X Y) (by simp only[TS,dZ,eQ,List.forall_mem_cons];(repeat' apply And.intro)<;>first|exact⟨⟩|with_reducible (first|rfl|assumption)|simp) (by simp) g rfl rfl
 ·have hc:(gq E P !=0)=true:=by unfold gq;rw[if_neg h];rfl
  have eE:bi E P m [X,Y]=2:=by
   unfold bi vV
   rw[if_neg h]
   split<;>rfl
  rw[eE,if_neg (by decide)]
  exact af ok (avI E P m X Y) (by simp only[TN,List.forall_mem_cons];(repeat' apply And.intro)<;>first|exact⟨⟩|with_reducible (first|rfl|assumption)|simp) (by simp) g rfl rfl
end Go.Proofs.YtnapiakfbihnjaaGreatDoor
namespace Go.Proofs.YtnapiakfbihnjaaGreatDoor
open Go.RowKit Go.Shelf Go.Canon
def bU(m:Int):Int:=if m=3 then 4 else if m=4 then 3 else m
theorem aew{m:Int}(h0:0≤m)(h1:m≤4):0≤bU m∧bU m≤4:=by unfold bU;split<;>(try split)<;>omega
theorem JK(m:Int)(n:Bool):dm (bU m) (!n)=dm m n:=by
 unfold dm bU
 cases n
 ·by_cases h3:m=3
  ·subst h3;rfl
  ·by_cases h4:m=4
   ·subst h4;rfl
   ·simp[h3,h4]
 ·by_cases h3:m=3
  ·subst h3;rfl
  ·by_cases h4:m=4
   ·subst h4;rfl
   ·simp[h3,h4]
theorem zf{K:Int}(h:K≠0):decide (-K<0)= !decide (K<0):=by
 by_cases hn:K<0
 ·rw[decide_eq_true hn,decide_eq_false (by omega)];rfl
 ·rw[decide_eq_false hn,decide_eq_true (by omega)];rfl
theorem Y4{E P X:Int}(x0:0≤X)(x1:X<2*ai E P):0≤aF E P X∧aF E P X<2*ai E P:=abj x0 x1
theorem tZ{E P X:Int}(x0:0≤X)(x1:X<2*ai E P):ak E P (aF E P X)= !ak E P X:=by
 unfold ak aF
 by_cases h:ai E P≤X
 ·rw[if_pos h,decide_eq_true h,decide_eq_false (by omega)];rfl
 ·rw[if_neg h,decide_eq_false h,decide_eq_true (by omega)];rfl
theorem wz{E P X:Int}(h:aG E P)(x0:0≤X)(x1:X<2*ai E P)(hk:kindOf E P X=1∨kindOf E P X=2):aK E P (aF E P X)= -aK E P X:=by
 unfold aK
 rw[oQ h x0 x1,UK x0 x1,tZ x0 x1]
 rcases hk with hk|hk
 ·simp only[if_neg (show¬kindOf E P X=2 by omega),if_neg (show¬kindOf E P X=5 by omega),if_neg (show¬kindOf E P X=4 by omega)];rfl
 ·simp only[if_pos hk]
  unfold Fj
  cases ak E P X<;>simp
def qU(E P S:Int)(n:Bool):Int:=S+(if n=true then ai E P else 0)
theorem ahL{E P S:Int}(n:Bool)(s0:0≤S)(s1:S<ai E P):aF E P (qU E P S n)=qU E P S (!n):=by
 unfold aF qU
 cases n
 ·simp;omega
 ·simp;omega
theorem Pq{E P S:Int}(n:Bool)(s0:0≤S)(s1:S<ai E P):0≤qU E P S n∧qU E P S n<2*ai E P∧dG E P (qU E P S n)=S:=by
 unfold qU dG sizeOf'
 cases n
 ·simp;omega
 ·simp;omega
theorem UH{E P X:Int}(h:aG E P)(hs:dG E P X≤aB E P):kindOf E P X≠4∧kindOf E P X≠5:=by
 have hi:=dR h
 unfold kindOf
 split
 ·omega
 ·split
  ·omega
  ·rw[if_pos (by omega)];omega
theorem LG{E P:Int}(h:aG E P):kindOf E P (aV E P)=4∧0≤aV E P∧aV E P<2*ai E P:=by
 have hi:=dR h
 have hq:=wU h
 have hsd:ai E P=2^(E+P-1).toNat:=rfl
 have e:dG E P (aV E P)=aV E P:=by unfold dG sizeOf';rw[if_pos (by omega)]
 refine⟨?_,by omega,by omega⟩
 unfold kindOf
 rw[e,if_neg (by omega),if_neg (by omega),if_neg (by omega),if_neg (by omega)]
def Fh(E P W F W' F':Int):Prop:=F'=F∧((W=aV E P∧W'=aV E P)∨ ∃S n,W=qU E P S n∧W'=qU E P S (!n)∧0≤S∧S≤aB E P)
theorem kQ{E P S F:Int}(n:Bool)(s0:0≤S)(s1:S≤aB E P):Fh E P (qU E P S n) F (qU E P S (!n)) F:=⟨rfl,.inr ⟨S,n,rfl,rfl,s0,s1⟩⟩
theorem nP{E P F:Int}:Fh E P (aV E P) F (aV E P) F:=⟨rfl,.inl ⟨rfl,rfl⟩⟩
theorem LH{E P m:Int}(h:aG E P)(n:Bool):Fh E P (kR E P m n) 20 (kR E P (bU m) (!n)) 20:=by
 have hi:=dR h
 have e: ∀mm nn,kR E P mm nn=qU E P (if dm mm nn=2∨dm mm nn=4 then aB E P-1 else aB E P) nn:=fun _ _=>rfl
 rw[e,e,JK]
 exact kQ n (by split<;>omega) (by split<;>omega)
theorem Ir{E P m K k:Int}(h:aG E P)(h0:K≠0):Fh E P (mY E P m K k) (mZ E P m K k) (mY E P (bU m) (-K) k) (mZ E P (bU m) (-K) k):=by
 have hn: -K≠0:=by omega
 have eA:(-K).natAbs=K.natAbs:=Int.natAbs_neg K
 have eL:eu (-K) k=eu K k:=by unfold eu;rw[if_neg hn,if_neg h0,eA]
 have eT:tO E (-K) k=tO E K k:=by unfold tO;rw[eL]
 have eS:stepOf E P (-K) k=stepOf E P K k:=by unfold stepOf;rw[if_neg hn,if_neg h0,eL]
 have eD:rD E P (-K) k=rD E P K k:=by unfold rD;rw[eS,eA]
 have eR:rR E P (-K) k=rR E P K k:=by unfold rR;rw[eS,eA]
 have eZ:jo E P (-K) k=jo E P K k:=by unfold jo;rw[eT,eD]
 have eU:Y5 E P (bU m) (-K) k=Y5 E P m K k:=by unfold Y5;rw[eD,eR,zf h0,JK]
 have eV:iq E P (bU m) (-K) k=iq E P m K k:=by unfold iq;rw[eZ,eU]
 unfold mY mZ
 simp only[if_neg h0,if_neg hn,eL,eV,eR,zf h0]
 by_cases hb:eu K k>aH E
 ·simp only[if_pos hb]
  exact LH h _
 ·simp only[if_neg hb]
  by_cases hl:iq E P m K k<aB E P
  ·simp only[if_pos hl]
   obtain⟨_,s0,_,_⟩:=UL (P:=P) (k:=k) h h0 (by omega)
   have u0:0≤iq E P m K k:=by unfold iq;split<;>omega
   have e1:iq E P m K k+(if K<0 then ai E P else 0)=qU E P (iq E P m K k) (decide (K<0)):=by unfold qU;simp
   have e2:iq E P m K k+(if-K<0 then ai E P else 0)=qU E P (iq E P m K k) (!decide (K<0)):=by rw[←zf h0];unfold qU;simp
   rw[e1,e2]
   exact kQ _ u0 (by omega)
  ·simp only[if_neg hl]
   exact LH h _
theorem ahQ{E P m K D k:Int}(h:aG E P)(hD:0<D)(h0:K≠0):Fh E P (pI E P m K D k) (pJ E P m K D k) (pI E P (bU m) (-K) D k) (pJ E P (bU m) (-K) D k):=by
 have hn: -K≠0:=by omega
 have eA:(-K).natAbs=K.natAbs:=Int.natAbs_neg K
 have eL:je (-K) D k=je K D k:=by unfold je;rw[if_neg hn,if_neg h0,eA]
 have eT:qV E (-K) D k=qV E K D k:=by unfold qV;rw[eL]
 have eS:jq E P (-K) D k=jq E P K D k:=by unfold jq;rw[if_neg hn,if_neg h0,eL]
 have eD:uU E P (-K) D k=uU E P K D k:=by unfold uU;rw[eS,eA]
 have eR:lM E P (-K) D k=lM E P K D k:=by unfold lM;rw[eS,eA]
 have eZ:ig E P (-K) D k=ig E P K D k:=by unfold ig;rw[eT,eD]
 have eU:NM E P (bU m) (-K) D k=NM E P m K D k:=by unfold NM;rw[eD,eR,zf h0,JK]
 have eV:eG E P (bU m) (-K) D k=eG E P m K D k:=by unfold eG;rw[eZ,eU]
 unfold pI pJ
 simp only[if_neg h0,if_neg hn,eL,eV,eR,zf h0]
 by_cases hb:je K D k>aH E
 ·simp only[if_pos hb]
  exact LH h _
 ·simp only[if_neg hb]
  by_cases hl:eG E P m K D k<aB E P
  ·simp only[if_pos hl]
   obtain⟨_,s0,_,_⟩:=Pv (P:=P) (k:=k) h hD h0 (by omega)
   have u0:0≤eG E P m K D k:=by unfold eG;split<;>omega
   have e1:eG E P m K D k+(if K<0 then ai E P else 0)=qU E P (eG E P m K D k) (decide (K<0)):=by unfold qU;simp
   have e2:eG E P m K D k+(if-K<0 then ai E P else 0)=qU E P (eG E P m K D k) (!decide (K<0)):=by rw[←zf h0];unfold qU;simp
   rw[e1,e2]
   exact kQ _ u0 (by omega)
  ·simp only[if_neg hl]
   exact LH h _
theorem Dw(E P:Int)(n:Bool):lH E P n=qU E P (aB E P) n:=rfl
theorem LJ(E P:Int)(n:Bool):pq E P n=qU E P 0 n:=by unfold pq qU;rw[Int.zero_add]
theorem ajW(a b:Bool):((!a) !=b)= !(a !=b):=by cases a<;>cases b<;>rfl
theorem avT(a b:Bool):(a !=(!b))= !(a !=b):=by cases a<;>cases b<;>rfl
theorem wC{E P X:Int}(h:aG E P)(x0:0≤X)(x1:X<2*ai E P):aO E P (aF E P X)↔aO E P X:=by unfold aO;rw[oQ h x0 x1]
section
variable {E P m X Y:Int} (h:aG E P) (x0:0≤X) (x1:X<2*ai E P) (y0:0≤Y) (y1:Y<2*ai E P)
include h x0 x1 y0 y1
theorem ahO:Fh E P (mlW E P m X Y) (mF E P m X Y) (mlW E P (bU m) (aF E P X) Y) (mF E P (bU m) (aF E P X) Y):=by
 have hi:=dR h
 unfold mlW mF yj
 simp only[wC h x0 x1,oQ h x0 x1,tZ x0 x1,ajW]
 by_cases hn:aO E P X∨aO E P Y
 ·simp only[if_pos hn];exact nP
 simp only[if_neg hn]
 by_cases h1:(kindOf E P X=1∧kindOf E P Y=3)∨(kindOf E P X=3∧kindOf E P Y=1)
 ·simp only[if_pos h1];exact nP
 simp only[if_neg h1]
 by_cases h2:kindOf E P X=3∨kindOf E P Y=3
 ·simp only[if_pos h2,Dw];exact kQ _ (by omega) (by omega)
 simp only[if_neg h2]
 by_cases h3:kindOf E P X=1∨kindOf E P Y=1
 ·simp only[if_pos h3,LJ];exact kQ _ (by omega) (by omega)
 simp only[if_neg h3]
 have kX:=gu E P X
 have kY:=gu E P Y
 have nX:kindOf E P X=2:=by unfold aO at hn;omega
 have nY:kindOf E P Y=2:=by unfold aO at hn;omega
 rw[wz h x0 x1 (.inr nX),Int.neg_mul]
 exact Ir h (Int.mul_ne_zero (xO h x0 x1 nX) (xO h y0 y1 nY))
theorem ahP:Fh E P (mlW E P m X Y) (mF E P m X Y) (mlW E P (bU m) X (aF E P Y)) (mF E P (bU m) X (aF E P Y)):=by
 have hi:=dR h
 unfold mlW mF yj
 simp only[wC h y0 y1,oQ h y0 y1,tZ y0 y1,avT]
 by_cases hn:aO E P X∨aO E P Y
 ·simp only[if_pos hn];exact nP
 simp only[if_neg hn]
 by_cases h1:(kindOf E P X=1∧kindOf E P Y=3)∨(kindOf E P X=3∧kindOf E P Y=1)
 ·simp only[if_pos h1];exact nP
 simp only[if_neg h1]
 by_cases h2:kindOf E P X=3∨kindOf E P Y=3
 ·simp only[if_pos h2,Dw];exact kQ _ (by omega) (by omega)
 simp only[if_neg h2]
 by_cases h3:kindOf E P X=1∨kindOf E P Y=1
 ·simp only[if_pos h3,LJ];exact kQ _ (by omega) (by omega)
 simp only[if_neg h3]
 have kX:=gu E P X
 have kY:=gu E P Y
 have nX:kindOf E P X=2:=by unfold aO at hn;omega
 have nY:kindOf E P Y=2:=by unfold aO at hn;omega
 rw[wz h y0 y1 (.inr nY),Int.mul_neg]
 exact Ir h (Int.mul_ne_zero (xO h x0 x1 nX) (xO h y0 y1 nY))
theorem arP:Fh E P (AZ E P m X Y) (A7 E P m X Y) (AZ E P (bU m) (aF E P X) Y) (A7 E P (bU m) (aF E P X) Y):=by
 have hi:=dR h
 unfold AZ A7 yj
 simp only[wC h x0 x1,oQ h x0 x1,tZ x0 x1,ajW]
 by_cases hn:aO E P X∨aO E P Y
 ·simp only[if_pos hn];exact nP
 simp only[if_neg hn]
 by_cases h1:kindOf E P X=kindOf E P Y∧kindOf E P X≠2
 ·simp only[if_pos h1];exact nP
 simp only[if_neg h1]
 by_cases h2:kindOf E P X=3∨kindOf E P Y=1
 ·simp only[if_pos h2,Dw]
  by_cases k3:kindOf E P X=3
  ·simp only[if_pos k3];exact kQ _ (by omega) (by omega)
  ·have k1:kindOf E P Y=1:=by omega
   simp only[if_neg k3,if_pos k1];exact kQ _ (by omega) (by omega)
 have h2a: ¬kindOf E P X=3:=fun hc=>h2 (.inl hc)
 have h2b: ¬kindOf E P Y=1:=fun hc=>h2 (.inr hc)
 simp only[if_neg h2,if_neg h2a,if_neg h2b]
 by_cases h3:kindOf E P X=1∨kindOf E P Y=3
 ·simp only[if_pos h3,LJ];exact kQ _ (by omega) (by omega)
 simp only[if_neg h3]
 have kX:=gu E P X
 have kY:=gu E P Y
 have nX:kindOf E P X=2:=by unfold aO at hn;omega
 have nY:kindOf E P Y=2:=by unfold aO at hn;omega
 have hx:=xO h x0 x1 nX
 have hy:=xO h y0 y1 nY
 rw[wz h x0 x1 (.inr nX)]
 have e:su (-aK E P X) (aK E P Y)= -su (aK E P X) (aK E P Y):=by unfold su;split<;>rfl
 rw[e]
 exact ahQ h (by unfold zN;omega) (by unfold su;split<;>omega)
theorem aes(hz: ¬((kindOf E P X=1∨kindOf E P X=2)∧(kindOf E P Y=1∨kindOf E P Y=2)∧aK E P X+aK E P Y=0)):Fh E P (adW E P m X Y) (uJ E P m X Y) (adW E P (bU m) (aF E P X) (aF E P Y)) (uJ E P (bU m) (aF E P X) (aF E P Y)):=by
 have hi:=dR h
 have kX:=gu E P X
 have kY:=gu E P Y
 unfold adW uJ yj
 simp only[wC h x0 x1,wC h y0 y1,oQ h x0 x1,oQ h y0 y1,tZ x0 x1,tZ y0 y1]
 by_cases hn:aO E P X∨aO E P Y
 ·simp only[if_pos hn];exact nP
 simp only[if_neg hn]
 by_cases h3:kindOf E P X=3
 ·simp only[if_pos h3]
  have e:((!ak E P X)≠(!ak E P Y))↔(ak E P X≠ak E P Y):=by cases ak E P X<;>cases ak E P Y<;>simp
  simp only[e]
  by_cases h4:kindOf E P Y=3∧ak E P X≠ak E P Y
  ·simp only[if_pos h4];exact nP
  ·simp only[if_neg h4,Dw];exact kQ _ (by omega) (by omega)
 simp only[if_neg h3]
 by_cases h4:kindOf E P Y=3
 ·simp only[if_pos h4,Dw];exact kQ _ (by omega) (by omega)
 simp only[if_neg h4]
 have nX:kindOf E P X=1∨kindOf E P X=2:=by unfold aO at hn;omega
 have nY:kindOf E P Y=1∨kindOf E P Y=2:=by unfold aO at hn;omega
 have hs:aK E P X+aK E P Y≠0:=fun hc=>hz ⟨nX,nY,hc⟩
 rw[wz h x0 x1 nX,wz h y0 y1 nY]
 unfold OB OC
 rw[show-aK E P X+ -aK E P Y= -(aK E P X+aK E P Y)by omega]
 simp only[if_neg hs,if_neg (show¬ -(aK E P X+aK E P Y)=0 by omega)]
 exact Ir h hs
end
theorem Y2(E P m X Y:Int):adW E P m X Y=adW E P m Y X∧uJ E P m X Y=uJ E P m Y X:=by
 have en:(aO E P X∨aO E P Y)↔(aO E P Y∨aO E P X):=Or.comm
 have e5:(kindOf E P X=5∨kindOf E P Y=5)↔(kindOf E P Y=5∨kindOf E P X=5):=Or.comm
 unfold adW uJ yj
 simp only[en,e5]
 by_cases hn:aO E P Y∨aO E P X
 ·simp only[if_pos hn];exact⟨trivial,trivial⟩
 simp only[if_neg hn]
 by_cases hx:kindOf E P X=3
 ·by_cases hy:kindOf E P Y=3
  ·simp only[hx,hy,if_true,true_and]
   by_cases hne:ak E P X=ak E P Y
   ·simp[hne]
   ·simp[hne,Ne.symm hne]
  ·simp[hx,hy]
 ·by_cases hy:kindOf E P Y=3
  ·simp[hx,hy]
  ·simp only[hx,hy,if_false]
   unfold OB OC
   rw[Int.add_comm (aK E P Y)]
   by_cases hz:aK E P X+aK E P Y=0
   ·simp only[if_pos hz]
    by_cases hne:ak E P X=ak E P Y
    ·simp[hne]
    ·simp[hne,Ne.symm hne]
   ·simp only[if_neg hz];exact⟨trivial,trivial⟩
theorem Y3(E P m X Y:Int):mlW E P m X Y=mlW E P m Y X∧mF E P m X Y=mF E P m Y X:=by
 have en:(aO E P X∨aO E P Y)↔(aO E P Y∨aO E P X):=Or.comm
 have e5:(kindOf E P X=5∨kindOf E P Y=5)↔(kindOf E P Y=5∨kindOf E P X=5):=Or.comm
 have e1:((kindOf E P X=1∧kindOf E P Y=3)∨(kindOf E P X=3∧kindOf E P Y=1))↔((kindOf E P Y=1∧kindOf E P X=3)∨(kindOf E P Y=3∧kindOf E P X=1)):=by omega
 have e2:(kindOf E P X=3∨kindOf E P Y=3)↔(kindOf E P Y=3∨kindOf E P X=3):=Or.comm
 have e3:(kindOf E P X=1∨kindOf E P Y=1)↔(kindOf E P Y=1∨kindOf E P X=1):=Or.comm
 have e4:(ak E P X !=ak E P Y)=(ak E P Y !=ak E P X):=by cases ak E P X<;>cases ak E P Y<;>rfl
 unfold mlW mF yj
 simp only[en,e5,e1,e2,e3,e4,Int.mul_comm (aK E P X)]
 exact⟨trivial,trivial⟩
theorem UJ(E P m X Y:Int):bi E P m [X,Y]=bi E P m [Y,X]:=by
 unfold bi vV
 have e:([X,Y].all fun Z=>decide (Z<2*ai E P))=([Y,X].all fun Z=>decide (Z<2*ai E P)):=by
  simp[Bool.and_comm]
 rw[e]
theorem arQ{E P G Q m X:Int}(h:aG E P)(hG:aG G Q)(x0:0≤X)(x1:X<2*ai E P):Fh G Q (AO E P G Q m X) (AP E P G Q m X) (AO E P G Q (bU m) (aF E P X)) (AP E P G Q (bU m) (aF E P X)):=by
 have hi:=dR hG
 have kX:=gu E P X
 unfold AO AP
 simp only[wC h x0 x1,oQ h x0 x1,tZ x0 x1]
 by_cases hn:aO E P X
 ·simp only[if_pos hn]
  have h2: ¬kindOf E P X=2:=by unfold aO at hn;omega
  simp only[if_neg h2]
  exact nP
 simp only[if_neg hn]
 have h5: ¬kindOf E P X=5:=by unfold aO at hn;omega
 simp only[if_neg h5]
 by_cases h3:kindOf E P X=3
 ·have h2: ¬kindOf E P X=2:=by omega
  simp only[if_pos h3,if_neg h2,Dw]
  exact kQ _ (by omega) (by omega)
 simp only[if_neg h3]
 by_cases h1:kindOf E P X=1
 ·have h2: ¬kindOf E P X=2:=by omega
  simp only[if_pos h1,if_neg h2,LJ]
  exact kQ _ (by omega) (by omega)
 have h2:kindOf E P X=2:=by unfold aO at hn;omega
 simp only[if_neg h1,if_pos h2]
 rw[wz h x0 x1 (.inr h2)]
 exact Ir hG (xO h x0 x1 h2)
end Go.Proofs.YtnapiakfbihnjaaGreatDoor
