/-
  Rounding of a number with a divisor: every path of it.
-/
import Derived.Test.YtnapiakfbihnjaaGreatDoorP41
import Derived.Test.YtnapiakfbihnjaaGreatDoorP31
set_option linter.unusedVariables false
set_option linter.unusedSimpArgs false
set_option maxRecDepth 1000000
namespace Go.Proofs.YtnapiakfbihnjaaGreatDoor
open Go.RowKit Go.Shelf Go.Canon
def ZC:CF→St→Option (Value×St):=orElse abR (orElse afw (orElse QN (orElse abz (orElse aiz (orElse afC (orElse Qj (orElse Dz (orElse QM (orElse abx (orElse upO (orElse aby (orElse nK (orElse QL ru)))))))))))))
theorem bM:aN Tryz.prog ZC:=aA Vr (aA afx (aA JS (aA U8 (aA ZE (aA afD (aA Vw (aA yO (aA JM (aA U4 (aA afF (aA NS (aA lG (aA JL nM)))))))))))))
def uU(E P K D k:Int):Int:=kZ K.natAbs D (k+(1-jq E P K D k))/2
def lM(E P K D k:Int):Int:=Cf K.natAbs D (k+(1-jq E P K D k))
def rTq(E K D k:Int):Int:=IntKind.u64.wrap (if 0>IntKind.i64.wrap (je K D k-(1-aH E))then 0 else IntKind.i64.wrap (je K D k-(1-aH E)))
def rLq(E P K D k:Int):Value:=ae (wX (.agg #[.int .u64 0,.int .u64 (rTq E K D k)])*2^(IntKind.i64.wrap (P-1)).toNat%aW)
def jJ(E P K D k:Int):Value:=ae ((wX (rLq E P K D k)+wX (ae (uU E P K D k)))%aW)
def jT(E P K D k:Int):Value:=ae ((wX (jJ E P K D k)+wX (ae 1))%aW)
def Vx(K D k:Int)(z:Bool):L_:=[(mf K !=0,z),(decide (fV K D k),T_),(decide (K<0)==decide (K<0),T_)]
def Vy(E P m K D k:Int)(neg big:Bool):L_:=
 (decide (je K D k>aH E),big)::(decide (aG E P),true)::(decide (0≤m∧m≤4),true)::(decide (pV K<0),neg)::(true,true)::(decide (K<0)==decide (K<0),true)::
  (decide (pV K<0),neg)::(true,true)::(decide (K<0)==decide (K<0),true)::Vx K D k false
def pM(E P m K D k:Int)(neg odd up:Bool):L_:=
 (nU (dm m neg) odd (lM E P K D k),up)::(decide (0≤dm m neg∧dm m neg≤4∧0≤lM E P K D k∧lM E P K D k≤3),true)::(bits BinOp.and IntKind.u64 (uU E P K D k%18446744073709551616) 1==1,odd)::(true,true)::
  (true,true)::(wB (rLq E P K D k)&&wB (ae (uU E P K D k)),true)::(wB (.agg #[.int .u64 0,.int .u64 (rTq E K D k)])&&decide (0≤IntKind.i64.wrap (P-1)∧IntKind.i64.wrap (P-1)≤127),true)::(true,true)::(decide (aG E P),true)::
  (true,true)::(decide (DK K D k (jq E P K D k)),true)::(decide (K<0)==decide (K<0),true)::(decide (aG E P)&&decide (fV K D k),true)::(decide (K<0)==decide (K<0),true)::Vy E P m K D k neg false
def qm(E P m K D k:Int)(neg odd:Bool):L_:=t_::(wB (jJ E P K D k)&&wB (ae 1),T_)::t_::pM E P m K D k neg odd true
def qo(E P K D k:Int)(tiny:Bool)(l:List (Bool×Bool)):L_:=(decide (je K D k<1-aH E),tiny)::(decide (aG E P),T_)::(lM E P K D k !=0,T_)::l
noncomputable def bZ(E P m K D k:Int)(an:List Bool):Option (Value×Option gW×List (Bool×Bool)):=dJ Tryz.prog TR ZC 1000 72 [.v (ed E P m),.q K D k] an 1
theorem XE(E P m K D k:Int):bZ E P m K D k [true,true]=some (.tuple #[.agg #[.int .u64 0,.int .u64 0],.int .i64 0],some (.fact 0),(true,true)::Vx K D k true):=by kernel_rfl
theorem Vz(E P m K D k:Int):bZ E P m K D k [F_,T_,T_,T_,T_]=some (.tuple #[ae (kR E P m true),.int .i64 20],some (.fact 0),qA E P m (Vy E P m K D k true true)):=by kernel_rfl
theorem VA(E P m K D k:Int):bZ E P m K D k [F_,T_,T_,F_,T_,T_,F_,T_]=some (.tuple #[ae (kR E P m true),.int .i64 20],some (.fact 0),qA E P m (dW E P m (jT E P K D k) false (qm E P m K D k true true))):=by kernel_rfl
theorem VB(E P m K D k:Int):bZ E P m K D k [F_,T_,T_,F_,T_,T_,T_,F_,T_]=some (.tuple #[ae (wX (jT E P K D k)+ai E P),.int .i64 0],some (.fact 0),iR E P (jT E P K D k) ((lM E P K D k !=0,false)::dW E P m (jT E P K D k) true (qm E P m K D k true true))):=by kernel_rfl
theorem VC(E P m K D k:Int):bZ E P m K D k [F_,T_,T_,F_,T_,T_,T_,T_,F_,T_]=some (.tuple #[ae (wX (jT E P K D k)+ai E P),.int .i64 16],some (.fact 0),iR E P (jT E P K D k) (qo E P K D k false (dW E P m (jT E P K D k) true (qm E P m K D k true true)))):=by kernel_rfl
theorem VD(E P m K D k:Int):bZ E P m K D k [F_,T_,T_,F_,T_,T_,T_,T_,T_,T_]=some (.tuple #[ae (wX (jT E P K D k)+ai E P),.int .i64 24],some (.fact 0),iR E P (jT E P K D k) (qo E P K D k true (dW E P m (jT E P K D k) true (qm E P m K D k true true)))):=by kernel_rfl
theorem VE(E P m K D k:Int):bZ E P m K D k [F_,T_,T_,F_,T_,F_,F_,T_]=some (.tuple #[ae (kR E P m true),.int .i64 20],some (.fact 0),qA E P m (dW E P m (jJ E P K D k) false (pM E P m K D k true true false))):=by kernel_rfl
theorem VF(E P m K D k:Int):bZ E P m K D k [F_,T_,T_,F_,T_,F_,T_,F_,T_]=some (.tuple #[ae (wX (jJ E P K D k)+ai E P),.int .i64 0],some (.fact 0),iR E P (jJ E P K D k) ((lM E P K D k !=0,false)::dW E P m (jJ E P K D k) true (pM E P m K D k true true false))):=by kernel_rfl
theorem VG(E P m K D k:Int):bZ E P m K D k [F_,T_,T_,F_,T_,F_,T_,T_,F_,T_]=some (.tuple #[ae (wX (jJ E P K D k)+ai E P),.int .i64 16],some (.fact 0),iR E P (jJ E P K D k) (qo E P K D k false (dW E P m (jJ E P K D k) true (pM E P m K D k true true false)))):=by kernel_rfl
theorem VH(E P m K D k:Int):bZ E P m K D k [F_,T_,T_,F_,T_,F_,T_,T_,T_,T_]=some (.tuple #[ae (wX (jJ E P K D k)+ai E P),.int .i64 24],some (.fact 0),iR E P (jJ E P K D k) (qo E P K D k true (dW E P m (jJ E P K D k) true (pM E P m K D k true true false)))):=by kernel_rfl
theorem VI(E P m K D k:Int):bZ E P m K D k [F_,T_,T_,F_,F_,T_,F_,T_]=some (.tuple #[ae (kR E P m true),.int .i64 20],some (.fact 0),qA E P m (dW E P m (jT E P K D k) false (qm E P m K D k true false))):=by kernel_rfl
theorem VJ(E P m K D k:Int):bZ E P m K D k [F_,T_,T_,F_,F_,T_,T_,F_,T_]=some (.tuple #[ae (wX (jT E P K D k)+ai E P),.int .i64 0],some (.fact 0),iR E P (jT E P K D k) ((lM E P K D k !=0,false)::dW E P m (jT E P K D k) true (qm E P m K D k true false))):=by kernel_rfl
theorem VK(E P m K D k:Int):bZ E P m K D k [F_,T_,T_,F_,F_,T_,T_,T_,F_,T_]=some (.tuple #[ae (wX (jT E P K D k)+ai E P),.int .i64 16],some (.fact 0),iR E P (jT E P K D k) (qo E P K D k false (dW E P m (jT E P K D k) true (qm E P m K D k true false)))):=by kernel_rfl
theorem VL(E P m K D k:Int):bZ E P m K D k [F_,T_,T_,F_,F_,T_,T_,T_,T_,T_]=some (.tuple #[ae (wX (jT E P K D k)+ai E P),.int .i64 24],some (.fact 0),iR E P (jT E P K D k) (qo E P K D k true (dW E P m (jT E P K D k) true (qm E P m K D k true false)))):=by kernel_rfl
theorem VM(E P m K D k:Int):bZ E P m K D k [F_,T_,T_,F_,F_,F_,F_,T_]=some (.tuple #[ae (kR E P m true),.int .i64 20],some (.fact 0),qA E P m (dW E P m (jJ E P K D k) false (pM E P m K D k true false false))):=by kernel_rfl
theorem VN(E P m K D k:Int):bZ E P m K D k [F_,T_,T_,F_,F_,F_,T_,F_,T_]=some (.tuple #[ae (wX (jJ E P K D k)+ai E P),.int .i64 0],some (.fact 0),iR E P (jJ E P K D k) ((lM E P K D k !=0,false)::dW E P m (jJ E P K D k) true (pM E P m K D k true false false))):=by kernel_rfl
theorem VO(E P m K D k:Int):bZ E P m K D k [F_,T_,T_,F_,F_,F_,T_,T_,F_,T_]=some (.tuple #[ae (wX (jJ E P K D k)+ai E P),.int .i64 16],some (.fact 0),iR E P (jJ E P K D k) (qo E P K D k false (dW E P m (jJ E P K D k) true (pM E P m K D k true false false)))):=by kernel_rfl
theorem VS(E P m K D k:Int):bZ E P m K D k [F_,T_,T_,F_,F_,F_,T_,T_,T_,T_]=some (.tuple #[ae (wX (jJ E P K D k)+ai E P),.int .i64 24],some (.fact 0),iR E P (jJ E P K D k) (qo E P K D k true (dW E P m (jJ E P K D k) true (pM E P m K D k true false false)))):=by kernel_rfl
theorem VT(E P m K D k:Int):bZ E P m K D k [F_,F_,F_,T_,T_]=some (.tuple #[ae (kR E P m false),.int .i64 20],some (.fact 0),qA E P m (Vy E P m K D k false true)):=by kernel_rfl
theorem VU(E P m K D k:Int):bZ E P m K D k [F_,F_,F_,F_,T_,T_,F_,T_]=some (.tuple #[ae (kR E P m false),.int .i64 20],some (.fact 0),qA E P m (dW E P m (jT E P K D k) false (qm E P m K D k false true))):=by kernel_rfl
theorem VV(E P m K D k:Int):bZ E P m K D k [F_,F_,F_,F_,T_,T_,T_,F_,T_]=some (.tuple #[ae (wX (jT E P K D k)),.int .i64 0],some (.fact 0),iR E P (jT E P K D k) ((lM E P K D k !=0,false)::dW E P m (jT E P K D k) true (qm E P m K D k false true))):=by kernel_rfl
theorem VW(E P m K D k:Int):bZ E P m K D k [F_,F_,F_,F_,T_,T_,T_,T_,F_,T_]=some (.tuple #[ae (wX (jT E P K D k)),.int .i64 16],some (.fact 0),iR E P (jT E P K D k) (qo E P K D k false (dW E P m (jT E P K D k) true (qm E P m K D k false true)))):=by kernel_rfl
theorem VX(E P m K D k:Int):bZ E P m K D k [F_,F_,F_,F_,T_,T_,T_,T_,T_,T_]=some (.tuple #[ae (wX (jT E P K D k)),.int .i64 24],some (.fact 0),iR E P (jT E P K D k) (qo E P K D k true (dW E P m (jT E P K D k) true (qm E P m K D k false true)))):=by kernel_rfl
theorem VY(E P m K D k:Int):bZ E P m K D k [F_,F_,F_,F_,T_,F_,F_,T_]=some (.tuple #[ae (kR E P m false),.int .i64 20],some (.fact 0),qA E P m (dW E P m (jJ E P K D k) false (pM E P m K D k false true false))):=by kernel_rfl
theorem VZ(E P m K D k:Int):bZ E P m K D k [F_,F_,F_,F_,T_,F_,T_,F_,T_]=some (.tuple #[ae (wX (jJ E P K D k)),.int .i64 0],some (.fact 0),iR E P (jJ E P K D k) ((lM E P K D k !=0,false)::dW E P m (jJ E P K D k) true (pM E P m K D k false true false))):=by kernel_rfl
theorem We(E P m K D k:Int):bZ E P m K D k [F_,F_,F_,F_,T_,F_,T_,T_,F_,T_]=some (.tuple #[ae (wX (jJ E P K D k)),.int .i64 16],some (.fact 0),iR E P (jJ E P K D k) (qo E P K D k false (dW E P m (jJ E P K D k) true (pM E P m K D k false true false)))):=by kernel_rfl
theorem Wh(E P m K D k:Int):bZ E P m K D k [F_,F_,F_,F_,T_,F_,T_,T_,T_,T_]=some (.tuple #[ae (wX (jJ E P K D k)),.int .i64 24],some (.fact 0),iR E P (jJ E P K D k) (qo E P K D k true (dW E P m (jJ E P K D k) true (pM E P m K D k false true false)))):=by kernel_rfl
theorem Wi(E P m K D k:Int):bZ E P m K D k [F_,F_,F_,F_,F_,T_,F_,T_]=some (.tuple #[ae (kR E P m false),.int .i64 20],some (.fact 0),qA E P m (dW E P m (jT E P K D k) false (qm E P m K D k false false))):=by kernel_rfl
theorem Wj(E P m K D k:Int):bZ E P m K D k [F_,F_,F_,F_,F_,T_,T_,F_,T_]=some (.tuple #[ae (wX (jT E P K D k)),.int .i64 0],some (.fact 0),iR E P (jT E P K D k) ((lM E P K D k !=0,false)::dW E P m (jT E P K D k) true (qm E P m K D k false false))):=by kernel_rfl
theorem Wl(E P m K D k:Int):bZ E P m K D k [F_,F_,F_,F_,F_,T_,T_,T_,F_,T_]=some (.tuple #[ae (wX (jT E P K D k)),.int .i64 16],some (.fact 0),iR E P (jT E P K D k) (qo E P K D k false (dW E P m (jT E P K D k) true (qm E P m K D k false false)))):=by kernel_rfl
theorem Wp(E P m K D k:Int):bZ E P m K D k [F_,F_,F_,F_,F_,T_,T_,T_,T_,T_]=some (.tuple #[ae (wX (jT E P K D k)),.int .i64 24],some (.fact 0),iR E P (jT E P K D k) (qo E P K D k true (dW E P m (jT E P K D k) true (qm E P m K D k false false)))):=by kernel_rfl
theorem Wq(E P m K D k:Int):bZ E P m K D k [F_,F_,F_,F_,F_,F_,F_,T_]=some (.tuple #[ae (kR E P m false),.int .i64 20],some (.fact 0),qA E P m (dW E P m (jJ E P K D k) false (pM E P m K D k false false false))):=by kernel_rfl
theorem Ws(E P m K D k:Int):bZ E P m K D k [F_,F_,F_,F_,F_,F_,T_,F_,T_]=some (.tuple #[ae (wX (jJ E P K D k)),.int .i64 0],some (.fact 0),iR E P (jJ E P K D k) ((lM E P K D k !=0,false)::dW E P m (jJ E P K D k) true (pM E P m K D k false false false))):=by kernel_rfl
theorem Wu(E P m K D k:Int):bZ E P m K D k [F_,F_,F_,F_,F_,F_,T_,T_,F_,T_]=some (.tuple #[ae (wX (jJ E P K D k)),.int .i64 16],some (.fact 0),iR E P (jJ E P K D k) (qo E P K D k false (dW E P m (jJ E P K D k) true (pM E P m K D k false false false)))):=by kernel_rfl
theorem Wv(E P m K D k:Int):bZ E P m K D k [F_,F_,F_,F_,F_,F_,T_,T_,T_,T_]=some (.tuple #[ae (wX (jJ E P K D k)),.int .i64 24],some (.fact 0),iR E P (jJ E P K D k) (qo E P K D k true (dW E P m (jJ E P K D k) true (pM E P m K D k false false false)))):=by kernel_rfl
theorem abj{E P X:Int}(x0:0≤X)(x1:X<2*ai E P):0≤aF E P X∧aF E P X<2*ai E P:=by unfold aF;split<;>omega
def vV(E P:Int)(l:List Int):Int:=if aG E P then(if l.all (fun X=>decide (X<2*ai E P))=true then 0 else 6)else 2
theorem fM{E P X c:Int}(h:kindOf E P X=c):(aj E P X==c)=true:=by unfold aj;rw[ag,h];simp
theorem di{E P X c:Int}(h: ¬kindOf E P X=c):(aj E P X==c)=false:=by unfold aj;rw[ag];simp[h]
theorem NC{E P X c:Int}(h:kindOf E P X=c):(aj E P X !=c)=false:=by unfold aj;rw[ag,h];simp
theorem yw{E P X c:Int}(h: ¬kindOf E P X=c):(aj E P X !=c)=true:=by unfold aj;rw[ag];simp[h]
theorem gu(E P X:Int):1≤kindOf E P X∧kindOf E P X≤5:=by
 unfold kindOf
 split
 ·omega
 ·split
  ·omega
  ·split
   ·omega
   ·split<;>omega
structure ay1(E P X:Int):Prop where
 nr:(wB (ae X)&&decide (0≤(IntKind.i64.wrap (E+P))∧(IntKind.i64.wrap (E+P))≤127))=true
 nd:X<2*ai E P→(decide (aG E P)&&(wB (ae X)&&decide (wX (ae X)<2*ai E P)))=true
 z0:X<2*ai E P→(!decide (wX (ae X)/2^(IntKind.i64.wrap (E+P)).toNat/18446744073709551616=0∧wX (ae X)/2^(IntKind.i64.wrap (E+P)).toNat%18446744073709551616=0))=false
 z1: ¬X<2*ai E P→(!decide (wX (ae X)/2^(IntKind.i64.wrap (E+P)).toNat/18446744073709551616=0∧wX (ae X)/2^(IntKind.i64.wrap (E+P)).toNat%18446744073709551616=0))=true
theorem Gi{E P X:Int}(h:aG E P)(x0:0≤X)(x1:X<aW):ay1 E P X:=by
 have hs:=dV h
 have bX:wB (ae X)=true:=dh x0 x1
 have hw:IntKind.i64.wrap (E+P)=E+P:=nC (by obtain⟨a,b,c,d,e⟩:=h;omega)
 have h2:(2:Int)^(E+P).toNat=2*ai E P:=by
  obtain⟨a,b,c,d,e⟩:=h
  unfold ai
  rw[show(E+P).toNat=(E+P-1).toNat+1 by omega,Int.pow_succ];omega
 have hr:0≤E+P∧E+P≤127:=by obtain⟨a,b,c,d,e⟩:=h;omega
 refine⟨by rw[bX,hw,decide_eq_true hr];rfl,fun hx=>by rw[bX,ag,decide_eq_true h,decide_eq_true hx];rfl,fun hx=>?_,fun hx=>?_⟩
 ·rw[hw,h2,ag,Int.ediv_eq_zero_of_lt x0 hx];rfl
 ·rw[hw,h2,ag]
  have:1≤X/(2*ai E P):=Int.le_ediv_of_mul_le (by omega) (by omega)
  rw[decide_eq_false (by omega)];rfl
theorem all2{E P X Y:Int}:([X,Y].all (fun X=>decide (X<2*ai E P))=true)↔X<2*ai E P∧Y<2*ai E P:=by simp
theorem aqm{E P X:Int}(h:aG E P)(x0:0≤X)(x1:X<2*ai E P)(hk:kindOf E P X=1∨kindOf E P X=2):inB (aK E P X) (az E P):=by
 have h1:=LK h x0 x1 hk
 have h2:=NV h
 have hbr:=dN h.1 h.2.1
 have hf:=IA h
 have hfe:az E P=1-aH E-P+1:=rfl
 have:=h.2.2.2.1
 exact⟨by omega,by omega,by omega,by omega⟩
theorem UK{E P X:Int}(x0:0≤X)(x1:X<2*ai E P):dG E P (aF E P X)=dG E P X:=by
 unfold dG sizeOf' aF
 by_cases h:ai E P≤X
 ·rw[if_pos h,if_pos (by omega),if_neg (by omega)]
 ·rw[if_neg h,if_neg (by omega),if_pos (by omega)];omega
theorem oQ{E P X:Int}(_:aG E P)(x0:0≤X)(x1:X<2*ai E P):kindOf E P (aF E P X)=kindOf E P X:=by
 unfold kindOf;rw[UK x0 x1]
def adC:CF→St→Option (Value×St):=orElse xE (orElse qI (orElse uq (orElse agQ (orElse La (orElse Gh (orElse ru (orElse nK Dj)))))))
theorem aqg:aN Tryz.prog adC:=aA qJ (aA mr (aA o9 (aA YB (aA Eh (aA AB (aA nM (aA lG xH)))))))
noncomputable def ng(E P m X Y:Int)(an:List Bool)(n:Nat):Option (Value×Option gW×List (Bool×Bool)):=dJ Tryz.prog TR (nest adC 6) 1000 6 [.v (kH E P),.v (.int .i64 m),.v (ae X),.v (ae Y)] an n
def jB(e:Int):Value:=.tuple #[.agg #[.int .u64 0,.int .u64 0],.int .i64 0,.int .i64 e]
def dC(W f:Int):Value:=.tuple #[ae W,.int .i64 f,.int .i64 0]
def jK(E P m:Int):L_:=[(decide (m<0),F_),(gq E P !=0,F_),t_]
def jZ(E P m X:Int):L_:=(wB (ae X)&&decide (0≤(IntKind.i64.wrap (E+P))∧(IntKind.i64.wrap (E+P))≤127),T_)::t_::t_::t_::t_::t_::f_::t_::t_::(decide (m>4),F_)::jK E P m
def ku(E P m X:Int):L_:=(decide (aG E P)&&(wB (ae X)&&decide (wX (ae X)<2*ai E P)),T_)::(!decide (wX (ae X)/2^(IntKind.i64.wrap (E+P)).toNat/18446744073709551616=0∧wX (ae X)/2^(IntKind.i64.wrap (E+P)).toNat%18446744073709551616=0),F_)::jZ E P m X
def pY(E P m X Y:Int)(na:Bool):L_:=(wB (ae Y)&&decide (0≤(IntKind.i64.wrap (E+P))∧(IntKind.i64.wrap (E+P))≤127),T_)::t_::t_::t_::t_::t_::t_::t_::(ak E P (wX (ae X)),na)::ku E P m X
def qc(E P m X Y:Int)(na:Bool):L_:=(decide (aG E P)&&(wB (ae Y)&&decide (wX (ae Y)<2*ai E P)),T_)::(!decide (wX (ae Y)/2^(IntKind.i64.wrap (E+P)).toNat/18446744073709551616=0∧wX (ae Y)/2^(IntKind.i64.wrap (E+P)).toNat%18446744073709551616=0),F_)::pY E P m X Y na
def ut(E P m X Y:Int)(na nb:Bool):L_:=t_::t_::t_::t_::f_::f_::t_::t_::(ak E P (wX (ae Y)),nb)::qc E P m X Y na
def Ht(E P m X Y:Int)(na nb:Bool):L_:=t_::t_::t_::t_::(aj E P X==5,F_)::t_::(aj E P X==5,F_)::t_::(aj E P X==4,F_)::ut E P m X Y na nb
def Hu(E P m X Y:Int)(na nb:Bool):L_:=t_::t_::t_::t_::(aj E P X==5,F_)::t_::(aj E P X==4,T_)::ut E P m X Y na nb
def yS(E P m X Y:Int):L_:=(decide (aG E P)&&(wB (ae Y)&&decide (wX (ae Y)<2*ai E P)),T_)::(!decide (wX (ae Y)/2^(IntKind.i64.wrap (E+P)).toNat/18446744073709551616=0∧wX (ae Y)/2^(IntKind.i64.wrap (E+P)).toNat%18446744073709551616=0),F_)::(wB (ae Y)&&decide (0≤(IntKind.i64.wrap (E+P))∧(IntKind.i64.wrap (E+P))≤127),T_)::t_::t_::t_::t_::t_::t_::t_::(ak E P (wX (ae X)),F_)::ku E P m X
def yT(E P m X Y:Int):L_:=(decide (aG E P)&&(wB (ae Y)&&decide (wX (ae Y)<2*ai E P)),T_)::(!decide (wX (ae Y)/2^(IntKind.i64.wrap (E+P)).toNat/18446744073709551616=0∧wX (ae Y)/2^(IntKind.i64.wrap (E+P)).toNat%18446744073709551616=0),F_)::(wB (ae Y)&&decide (0≤(IntKind.i64.wrap (E+P))∧(IntKind.i64.wrap (E+P))≤127),T_)::t_::t_::t_::t_::t_::t_::t_::(ak E P (wX (ae X)),T_)::ku E P m X
def Sl(E P m X Y:Int)(na nb:Bool):L_:=t_::t_::t_::t_::t_::(decide (aG E P),T_)::f_::t_::t_::t_::(aj E P X==5,T_)::t_::(aj E P X==5,T_)::t_::(aj E P X==4,F_)::ut E P m X Y na nb
theorem auS(E P m X Y:Int)(na nb:Bool):ng E P m X Y [F_,F_,F_,F_,T_,F_,na,T_,F_,nb,F_,F_,T_,F_,T_,T_,T_,F_,T_] 1=some (dC (aV E P) 1,some (.fact 0),Sl E P m X Y na nb):=by kernel_rfl
def Sm(E P m X Y:Int)(na nb:Bool):L_:=t_::t_::t_::t_::(decide (aG E P),T_)::f_::f_::(aj E P Y==5,F_)::Hu E P m X Y na nb
theorem auT(E P m X Y:Int)(na nb:Bool):ng E P m X Y [F_,F_,F_,F_,T_,F_,na,T_,F_,nb,F_,F_,T_,T_,F_,T_,F_,F_,F_,T_] 1=some (dC (aV E P) 0,some (.fact 0),Sm E P m X Y na nb):=by kernel_rfl
def Sr(E P m X Y:Int)(na nb:Bool):L_:=t_::t_::t_::t_::t_::(decide (aG E P),T_)::f_::(aj E P Y==5,T_)::Hu E P m X Y na nb
theorem auW(E P m X Y:Int)(na nb:Bool):ng E P m X Y [F_,F_,F_,F_,T_,F_,na,T_,F_,nb,F_,F_,T_,T_,F_,T_,T_,F_,T_] 1=some (dC (aV E P) 1,some (.fact 0),Sr E P m X Y na nb):=by kernel_rfl
def Su(E P m X Y:Int)(na nb:Bool):L_:=t_::t_::t_::t_::(decide (aG E P),T_)::f_::f_::(aj E P Y==5,F_)::t_::(aj E P Y==4,T_)::Ht E P m X Y na nb
theorem auX(E P m X Y:Int)(na nb:Bool):ng E P m X Y [F_,F_,F_,F_,T_,F_,na,T_,F_,nb,F_,F_,T_,F_,F_,F_,T_,T_,F_,F_,F_,T_] 1=some (dC (aV E P) 0,some (.fact 0),Su E P m X Y na nb):=by kernel_rfl
def Sv(E P m X Y:Int)(na nb:Bool):L_:=t_::t_::t_::t_::t_::(decide (aG E P),T_)::f_::(aj E P Y==5,T_)::t_::(aj E P Y==5,T_)::t_::(aj E P Y==4,F_)::Ht E P m X Y na nb
theorem auY(E P m X Y:Int)(na nb:Bool):ng E P m X Y [F_,F_,F_,F_,T_,F_,na,T_,F_,nb,F_,F_,T_,F_,F_,F_,T_,F_,T_,T_,F_,T_] 1=some (dC (aV E P) 1,some (.fact 0),Sv E P m X Y na nb):=by kernel_rfl
def Sz(E P m X Y:Int)(nb:Bool):L_:=t_::t_::t_::t_::t_::t_::(decide (aG E P)&&(wB (ae (aB E P))&&decide (wX (ae (aB E P))<ai E P)),T_)::(decide (aG E P),T_)::(aj E P X==3,T_)::(aj E P X==1,F_)::t_::(aj E P X==3,T_)::t_::(aj E P Y==3,F_)::t_::(aj E P X==3,T_)::t_::t_::t_::t_::t_::f_::(aj E P Y==5,F_)::t_::(aj E P Y==5,F_)::t_::(aj E P Y==4,F_)::t_::t_::t_::t_::(aj E P X==5,F_)::t_::(aj E P X==5,F_)::t_::(aj E P X==4,F_)::t_::t_::t_::t_::f_::f_::t_::t_::(ak E P (wX (ae Y)),nb)::yS E P m X Y
theorem auZ(E P m X Y:Int)(nb:Bool):ng E P m X Y [F_,F_,F_,F_,T_,F_,F_,T_,F_,nb,F_,F_,T_,F_,F_,F_,T_,F_,F_,F_,F_,T_,F_,T_,F_,T_,T_] 1=some (dC (wX (ae (aB E P))) 0,some (.fact 0),Sz E P m X Y nb):=by kernel_rfl
def SA(E P m X Y:Int)(nb:Bool):L_:=t_::t_::t_::t_::t_::t_::(decide (aG E P)&&(wB (ae (aB E P))&&decide (wX (ae (aB E P))<ai E P)),T_)::(decide (aG E P),T_)::(aj E P X==3,T_)::(aj E P X==1,F_)::t_::(aj E P X==3,T_)::t_::(aj E P Y==3,F_)::t_::(aj E P X==3,T_)::t_::t_::t_::t_::t_::f_::(aj E P Y==5,F_)::t_::(aj E P Y==5,F_)::t_::(aj E P Y==4,F_)::t_::t_::t_::t_::(aj E P X==5,F_)::t_::(aj E P X==5,F_)::t_::(aj E P X==4,F_)::t_::t_::t_::t_::f_::f_::t_::t_::(ak E P (wX (ae Y)),nb)::yT E P m X Y
theorem au0(E P m X Y:Int)(nb:Bool):ng E P m X Y [F_,F_,F_,F_,T_,F_,T_,T_,F_,nb,F_,F_,T_,F_,F_,F_,T_,F_,F_,F_,F_,T_,F_,T_,F_,T_,T_] 1=some (dC (wX (ae (aB E P))+ai E P) 0,some (.fact 0),SA E P m X Y nb):=by kernel_rfl
def SC(E P m X Y:Int)(na:Bool):L_:=t_::t_::t_::t_::t_::t_::(decide (aG E P)&&(wB (ae (aB E P))&&decide (wX (ae (aB E P))<ai E P)),T_)::(decide (aG E P),T_)::(aj E P Y==3,T_)::(aj E P Y==1,F_)::t_::(aj E P Y==3,T_)::t_::(aj E P X==3,F_)::t_::(aj E P X==3,F_)::t_::t_::t_::t_::t_::f_::(aj E P Y==5,F_)::t_::(aj E P Y==5,F_)::t_::(aj E P Y==4,F_)::t_::t_::t_::t_::(aj E P X==5,F_)::t_::(aj E P X==5,F_)::t_::(aj E P X==4,F_)::t_::t_::t_::t_::f_::f_::t_::t_::(ak E P (wX (ae Y)),F_)::qc E P m X Y na
theorem au1(E P m X Y:Int)(na:Bool):ng E P m X Y [F_,F_,F_,F_,T_,F_,na,T_,F_,F_,F_,F_,T_,F_,F_,F_,T_,F_,F_,F_,F_,F_,F_,T_,F_,T_,T_] 1=some (dC (wX (ae (aB E P))) 0,some (.fact 0),SC E P m X Y na):=by kernel_rfl
def SE(E P m X Y:Int)(na:Bool):L_:=t_::t_::t_::t_::t_::t_::(decide (aG E P)&&(wB (ae (aB E P))&&decide (wX (ae (aB E P))<ai E P)),T_)::(decide (aG E P),T_)::(aj E P Y==3,T_)::(aj E P Y==1,F_)::t_::(aj E P Y==3,T_)::t_::(aj E P X==3,F_)::t_::(aj E P X==3,F_)::t_::t_::t_::t_::t_::f_::(aj E P Y==5,F_)::t_::(aj E P Y==5,F_)::t_::(aj E P Y==4,F_)::t_::t_::t_::t_::(aj E P X==5,F_)::t_::(aj E P X==5,F_)::t_::(aj E P X==4,F_)::t_::t_::t_::t_::f_::f_::t_::t_::(ak E P (wX (ae Y)),T_)::qc E P m X Y na
theorem au2(E P m X Y:Int)(na:Bool):ng E P m X Y [F_,F_,F_,F_,T_,F_,na,T_,F_,T_,F_,F_,T_,F_,F_,F_,T_,F_,F_,F_,F_,F_,F_,T_,F_,T_,T_] 1=some (dC (wX (ae (aB E P))+ai E P) 0,some (.fact 0),SE E P m X Y na):=by kernel_rfl
def SG(E P m X Y:Int):L_:=t_::t_::t_::t_::t_::t_::(decide (aG E P),T_)::t_::(aj E P Y==3,T_)::t_::(aj E P X==3,T_)::t_::t_::t_::t_::t_::f_::(aj E P Y==5,F_)::t_::(aj E P Y==5,F_)::t_::(aj E P Y==4,F_)::t_::t_::t_::t_::(aj E P X==5,F_)::t_::(aj E P X==5,F_)::t_::(aj E P X==4,F_)::t_::t_::t_::t_::f_::f_::t_::t_::(ak E P (wX (ae Y)),T_)::yS E P m X Y
theorem au5(E P m X Y:Int):ng E P m X Y [F_,F_,F_,F_,T_,F_,F_,T_,F_,T_,F_,F_,T_,F_,F_,F_,T_,F_,F_,F_,F_,T_,T_,T_,T_] 1=some (dC (aV E P) 1,some (.fact 0),SG E P m X Y):=by kernel_rfl
def SH(E P m X Y:Int):L_:=t_::t_::t_::t_::t_::t_::(decide (aG E P),T_)::t_::(aj E P Y==3,T_)::t_::(aj E P X==3,T_)::t_::t_::t_::t_::t_::f_::(aj E P Y==5,F_)::t_::(aj E P Y==5,F_)::t_::(aj E P Y==4,F_)::t_::t_::t_::t_::(aj E P X==5,F_)::t_::(aj E P X==5,F_)::t_::(aj E P X==4,F_)::t_::t_::t_::t_::f_::f_::t_::t_::(ak E P (wX (ae Y)),F_)::yT E P m X Y
theorem au6(E P m X Y:Int):ng E P m X Y [F_,F_,F_,F_,T_,F_,T_,T_,F_,F_,F_,F_,T_,F_,F_,F_,T_,F_,F_,F_,F_,T_,T_,T_,T_] 1=some (dC (aV E P) 1,some (.fact 0),SH E P m X Y):=by kernel_rfl
def SI(E P m X Y:Int):L_:=t_::t_::t_::t_::t_::t_::(decide (aG E P)&&(wB (ae (aB E P))&&decide (wX (ae (aB E P))<ai E P)),T_)::(decide (aG E P),T_)::(aj E P X==3,T_)::(aj E P X==1,F_)::t_::(aj E P X==3,T_)::t_::f_::(aj E P Y==3,T_)::t_::(aj E P X==3,T_)::t_::t_::t_::t_::t_::f_::(aj E P Y==5,F_)::t_::(aj E P Y==5,F_)::t_::(aj E P Y==4,F_)::t_::t_::t_::t_::(aj E P X==5,F_)::t_::(aj E P X==5,F_)::t_::(aj E P X==4,F_)::t_::t_::t_::t_::f_::f_::t_::t_::(ak E P (wX (ae Y)),F_)::yS E P m X Y
theorem au7(E P m X Y:Int):ng E P m X Y [F_,F_,F_,F_,T_,F_,F_,T_,F_,F_,F_,F_,T_,F_,F_,F_,T_,F_,F_,F_,F_,T_,T_,F_,T_,F_,T_,T_] 1=some (dC (wX (ae (aB E P))) 0,some (.fact 0),SI E P m X Y):=by kernel_rfl
def SK(E P m X Y:Int):L_:=t_::t_::t_::t_::t_::t_::(decide (aG E P)&&(wB (ae (aB E P))&&decide (wX (ae (aB E P))<ai E P)),T_)::(decide (aG E P),T_)::(aj E P X==3,T_)::(aj E P X==1,F_)::t_::(aj E P X==3,T_)::t_::f_::(aj E P Y==3,T_)::t_::(aj E P X==3,T_)::t_::t_::t_::t_::t_::f_::(aj E P Y==5,F_)::t_::(aj E P Y==5,F_)::t_::(aj E P Y==4,F_)::t_::t_::t_::t_::(aj E P X==5,F_)::t_::(aj E P X==5,F_)::t_::(aj E P X==4,F_)::t_::t_::t_::t_::f_::f_::t_::t_::(ak E P (wX (ae Y)),T_)::yT E P m X Y
theorem ava(E P m X Y:Int):ng E P m X Y [F_,F_,F_,F_,T_,F_,T_,T_,F_,T_,F_,F_,T_,F_,F_,F_,T_,F_,F_,F_,F_,T_,T_,F_,T_,F_,T_,T_] 1=some (dC (wX (ae (aB E P))+ai E P) 0,some (.fact 0),SK E P m X Y):=by kernel_rfl
def SL(E P m X Y:Int):L_:=[t_,t_,t_,t_,t_,(gq E P !=0,T_),t_]
theorem avb(E P m X Y:Int):ng E P m X Y [true,true,true] 1=some (jB 2,some (.fact 0),SL E P m X Y):=by kernel_rfl
def SN(E P m X Y:Int):L_:=[t_,t_,t_,t_,t_,(decide (m<0),T_),(gq E P !=0,F_),t_]
theorem avc(E P m X Y:Int):ng E P m X Y [F_,T_,T_,T_] 1=some (jB 2,some (.fact 0),SN E P m X Y):=by kernel_rfl
def SQ(E P m X Y:Int):L_:=t_::t_::t_::t_::t_::(decide (m>4),T_)::jK E P m
theorem avd(E P m X Y:Int):ng E P m X Y [F_,F_,T_,T_,T_] 1=some (jB 2,some (.fact 0),SQ E P m X Y):=by kernel_rfl
def SS(E P m X Y:Int):L_:=t_::t_::t_::(!decide (wX (ae X)/2^(IntKind.i64.wrap (E+P)).toNat/18446744073709551616=0∧wX (ae X)/2^(IntKind.i64.wrap (E+P)).toNat%18446744073709551616=0),T_)::jZ E P m X
theorem avf(E P m X Y:Int):ng E P m X Y [F_,F_,F_,F_,T_,T_,T_,T_] 1=some (jB 6,some (.fact 0),SS E P m X Y):=by kernel_rfl
def SV(E P m X Y:Int)(na:Bool):L_:=t_::t_::t_::(!decide (wX (ae Y)/2^(IntKind.i64.wrap (E+P)).toNat/18446744073709551616=0∧wX (ae Y)/2^(IntKind.i64.wrap (E+P)).toNat%18446744073709551616=0),T_)::pY E P m X Y na
theorem avg(E P m X Y:Int)(na:Bool):ng E P m X Y [F_,F_,F_,F_,T_,F_,na,T_,T_,T_,T_] 1=some (jB 6,some (.fact 0),SV E P m X Y na):=by kernel_rfl
def bi(E P m:Int)(l:List Int):Int:=if m<0∨m>4 then 2 else vV E P l
def lH(E P:Int)(n:Bool):Int:=aB E P+(if n=true then ai E P else 0)
def aO(E P X:Int):Prop:=kindOf E P X=4∨kindOf E P X=5
instance (E P X:Int):Decidable (aO E P X):=by unfold aO;infer_instance
def yj(E P X Y:Int):Int:=if kindOf E P X=5∨kindOf E P Y=5 then 1 else 0
def adW(E P m X Y:Int):Int:=
 if aO E P X∨aO E P Y then aV E P else if kindOf E P X=3 then(if kindOf E P Y=3∧ak E P X≠ak E P Y then aV E P else lH E P (ak E P X))else if kindOf E P Y=3 then lH E P (ak E P Y)
 else OB E P m (aK E P X) (aK E P Y) (ak E P X) (ak E P Y)
def uJ(E P m X Y:Int):Int:=
 if aO E P X∨aO E P Y then yj E P X Y else if kindOf E P X=3 then(if kindOf E P Y=3∧ak E P X≠ak E P Y then 1 else 0)else if kindOf E P Y=3 then 0
 else OC E P m (aK E P X) (aK E P Y)
def ajq(E P m X Y:Int):Value:=if bi E P m [X,Y]=0 then dC (adW E P m X Y) (uJ E P m X Y)else jB (bi E P m [X,Y])
theorem Hw(a b c d:Value)(ha:ground 9 a=true)(hb:ground 9 b=true)(hc:ground 9 c=true)(hd:ground 9 d=true): ∀x,Ar.v x∈ [Ar.v a,.v b,.v c,.v d]→ground 9 x=true:=fun x hx=>by
 simp at hx;rcases hx with rfl|rfl|rfl|rfl<;>assumption
set_option maxHeartbeats 4000000 in
theorem agS{E P m X Y:Int}(x0:0≤X)(x1:X<aW)(y0:0≤Y)(y1:Y<aW):dU Tryz.prog TR 6 [.v (kH E P),.v (.int .i64 m),.v (ae X),.v (ae Y)] ⟨none,ajq E P m X Y⟩:=by
 have g:=Hw (kH E P) (.int .i64 m) (ae X) (ae Y) rfl rfl rfl rfl
 have ok:=rC aqg 6
 unfold ajq
 by_cases h:aG E P
 ·have hc:(gq E P !=0)=false:=by unfold gq;rw[if_pos h];rfl
  by_cases ml:m<0
  ·have eE:bi E P m [X,Y]=2:=by unfold bi;rw[if_pos (.inl ml)]
   rw[eE,if_neg (by decide)]
   have d2:decide (m<0)=true:=decide_eq_true ml
   exact af ok (avc E P m X Y) (by simp only[SN,List.forall_mem_cons];(repeat' apply And.intro)<;>first|exact⟨⟩|with_reducible (first|rfl|assumption)|(intro c hc;cases hc)) (by simp) g rfl rfl
  have d2:decide (m<0)=false:=decide_eq_false ml
  by_cases mh:m>4
  ·have eE:bi E P m [X,Y]=2:=by unfold bi;rw[if_pos (.inr mh)]
   rw[eE,if_neg (by decide)]
   have d3:decide (m>4)=true:=decide_eq_true mh
   exact af ok (avd E P m X Y) (by simp only[SQ,jK,List.forall_mem_cons];(repeat' apply And.intro)<;>first|exact⟨⟩|with_reducible (first|rfl|assumption)|(intro c hc;cases hc)) (by simp) g rfl rfl
  have d3:decide (m>4)=false:=decide_eq_false mh
  have e0:bi E P m [X,Y]=vV E P [X,Y]:=by unfold bi;rw[if_neg (by omega)]
  rw[e0]
  unfold vV
  rw[if_pos h]
  obtain⟨nrX,AC,zX,SX⟩:=Gi h x0 x1
  obtain⟨nrY,OD,zY,zY'⟩:=Gi h y0 y1
  by_cases hX:X<2*ai E P
  ·have AC:=AC hX
   have zX:=zX hX
   by_cases hY:Y<2*ai E P
   ·have OD:=OD hY
    have zY:=zY hY
    rw[if_pos (all2.2 ⟨hX,hY⟩),if_pos rfl]
    have kX:=gu E P X
    have kY:=gu E P Y
    have nX:ak E P (wX (ae X))=ak E P X:=by rw[ag]
    have nY:ak E P (wX (ae Y))=ak E P Y:=by rw[ag]
    have hi:=dR h
    have hs:=dV h
    have hiS:aB E P<ai E P:=hi.2.1
    have m2:decide (aG E P)=true:=decide_eq_true h
    have sg:(decide (aG E P)&&(wB (ae (aB E P))&&decide (wX (ae (aB E P))<ai E P)))=true:=by
     rw[m2,dh (by omega) (by omega),ag,decide_eq_true hiS];rfl
    unfold adW uJ yj
    by_cases x4:kindOf E P X=4
    ·have d4:=fM x4
     have d5:=di (show¬kindOf E P X=5 by omega)
     rw[if_pos (show aO E P X∨aO E P Y from .inl (.inl x4)),if_pos (show aO E P X∨aO E P Y from .inl (.inl x4))]
     by_cases y5:kindOf E P Y=5
     ·have d6:=fM y5
      rw[if_pos (.inr y5)]
      exact af ok (auW E P m X Y (ak E P (wX (ae X))) (ak E P (wX (ae Y)))) (by simp only[Sr,jK,jZ,ku,pY,qc,ut,Hu,List.forall_mem_cons];(repeat' apply And.intro)<;>first|exact⟨⟩|with_reducible (first|rfl|assumption)|(intro c hc;cases hc)) (by simp) g rfl rfl
     ·have d6:=di y5
      rw[if_neg (show¬(kindOf E P X=5∨kindOf E P Y=5)by omega)]
      exact af ok (auT E P m X Y (ak E P (wX (ae X))) (ak E P (wX (ae Y)))) (by simp only[Sm,jK,jZ,ku,pY,qc,ut,Hu,List.forall_mem_cons];(repeat' apply And.intro)<;>first|exact⟨⟩|with_reducible (first|rfl|assumption)|(intro c hc;cases hc)) (by simp) g rfl rfl
    have d4:=di x4
    by_cases x5:kindOf E P X=5
    ·have d5:=fM x5
     rw[if_pos (show aO E P X∨aO E P Y from .inl (.inr x5)),if_pos (show aO E P X∨aO E P Y from .inl (.inr x5)),if_pos (.inl x5)]
     exact af ok (auS E P m X Y (ak E P (wX (ae X))) (ak E P (wX (ae Y)))) (by simp only[Sl,jK,jZ,ku,pY,qc,ut,List.forall_mem_cons];(repeat' apply And.intro)<;>first|exact⟨⟩|with_reducible (first|rfl|assumption)|(intro c hc;cases hc)) (by simp) g rfl rfl
    have d5:=di x5
    by_cases y4:kindOf E P Y=4
    ·have d6:=fM y4
     have d7:=di (show¬kindOf E P Y=5 by omega)
     rw[if_pos (show aO E P X∨aO E P Y from .inr (.inl y4)),if_pos (show aO E P X∨aO E P Y from .inr (.inl y4)),if_neg (show¬(kindOf E P X=5∨kindOf E P Y=5)by omega)]
     exact af ok (auX E P m X Y (ak E P (wX (ae X))) (ak E P (wX (ae Y)))) (by simp only[Su,jK,jZ,ku,pY,qc,ut,Ht,List.forall_mem_cons];(repeat' apply And.intro)<;>first|exact⟨⟩|with_reducible (first|rfl|assumption)|(intro c hc;cases hc)|(simp[nX,nY];done)) (by simp) g rfl rfl
    have d6:=di y4
    by_cases y5:kindOf E P Y=5
    ·have d7:=fM y5
     rw[if_pos (show aO E P X∨aO E P Y from .inr (.inr y5)),if_pos (show aO E P X∨aO E P Y from .inr (.inr y5)),if_pos (.inr y5)]
     exact af ok (auY E P m X Y (ak E P (wX (ae X))) (ak E P (wX (ae Y)))) (by simp only[Sv,jK,jZ,ku,pY,qc,ut,Ht,List.forall_mem_cons];(repeat' apply And.intro)<;>first|exact⟨⟩|with_reducible (first|rfl|assumption)|(intro c hc;cases hc)|(simp[nX,nY];done)) (by simp) g rfl rfl
    have d7:=di y5
    have hnn: ¬(aO E P X∨aO E P Y):=by unfold aO;omega
    rw[if_neg hnn,if_neg hnn]
    by_cases x3:kindOf E P X=3
    ·have d8:=fM x3
     have d1:=di (show¬kindOf E P X=1 by omega)
     rw[if_pos x3,if_pos x3]
     by_cases y3:kindOf E P Y=3
     ·have d9:=fM y3
      cases hx:ak E P X<;>cases hy:ak E P Y
      ·rw[if_neg (by simp),if_neg (by simp)]
       exact af ok (au7 E P m X Y) (by simp only[SI,jK,jZ,ku,yS,List.forall_mem_cons];(repeat' apply And.intro)<;>first|exact⟨⟩|with_reducible (first|rfl|assumption)|(intro c hc;cases hc)|(simp[nX,nY,hx,hy];done)) (by simp) g (by rw[ag];unfold lH;rw[if_neg (by decide),Int.add_zero]) rfl
      ·rw[if_pos ⟨y3,by simp⟩,if_pos ⟨y3,by simp⟩]
       exact af ok (au5 E P m X Y) (by simp only[SG,jK,jZ,ku,yS,List.forall_mem_cons];(repeat' apply And.intro)<;>first|exact⟨⟩|with_reducible (first|rfl|assumption)|(intro c hc;cases hc)|(simp[nX,nY,hx,hy];done)) (by simp) g rfl rfl
      ·rw[if_pos ⟨y3,by simp⟩,if_pos ⟨y3,by simp⟩]
       exact af ok (au6 E P m X Y) (by simp only[SH,jK,jZ,ku,yT,List.forall_mem_cons];(repeat' apply And.intro)<;>first|exact⟨⟩|with_reducible (first|rfl|assumption)|(intro c hc;cases hc)|(simp[nX,nY,hx,hy];done)) (by simp) g rfl rfl
      ·rw[if_neg (by simp),if_neg (by simp)]
       exact af ok (ava E P m X Y) (by simp only[SK,jK,jZ,ku,yT,List.forall_mem_cons];(repeat' apply And.intro)<;>first|exact⟨⟩|with_reducible (first|rfl|assumption)|(intro c hc;cases hc)|(simp[nX,nY,hx,hy];done)) (by simp) g (by rw[ag];unfold lH;rw[if_pos rfl]) rfl
     ·have d9:=di y3
      rw[if_neg (fun hc=>y3 hc.1),if_neg (fun hc=>y3 hc.1)]
      cases hx:ak E P X
      ·exact af ok (auZ E P m X Y (ak E P (wX (ae Y)))) (by simp only[Sz,jK,jZ,ku,yS,List.forall_mem_cons];(repeat' apply And.intro)<;>first|exact⟨⟩|with_reducible (first|rfl|assumption)|(intro c hc;cases hc)|(simp[nX,nY,hx];done)) (by simp) g (by rw[ag];unfold lH;rw[if_neg (by decide),Int.add_zero]) rfl
      ·exact af ok (au0 E P m X Y (ak E P (wX (ae Y)))) (by simp only[SA,jK,jZ,ku,yT,List.forall_mem_cons];(repeat' apply And.intro)<;>first|exact⟨⟩|with_reducible (first|rfl|assumption)|(intro c hc;cases hc)|(simp[nX,nY,hx];done)) (by simp) g (by rw[ag];unfold lH;rw[if_pos rfl]) rfl
    have d8:=di x3
    rw[if_neg x3,if_neg x3]
    by_cases y3:kindOf E P Y=3
    ·have d9:=fM y3
     have d1:=di (show¬kindOf E P Y=1 by omega)
     rw[if_pos y3,if_pos y3]
     cases hy:ak E P Y
     ·exact af ok (au1 E P m X Y (ak E P (wX (ae X)))) (by simp only[SC,jK,jZ,ku,pY,qc,List.forall_mem_cons];(repeat' apply And.intro)<;>first|exact⟨⟩|with_reducible (first|rfl|assumption)|(intro c hc;cases hc)|(simp[nX,nY,hy];done)) (by simp) g (by rw[ag];unfold lH;rw[if_neg (by decide),Int.add_zero]) rfl
     ·exact af ok (au2 E P m X Y (ak E P (wX (ae X)))) (by simp only[SE,jK,jZ,ku,pY,qc,List.forall_mem_cons];(repeat' apply And.intro)<;>first|exact⟨⟩|with_reducible (first|rfl|assumption)|(intro c hc;cases hc)|(simp[nX,nY,hy];done)) (by simp) g (by rw[ag];unfold lH;rw[if_pos rfl]) rfl
    rw[if_neg y3,if_neg y3]
    exact agU h (by omega) (by omega) x0 hX y0 hY (by omega) (by omega)
   ·have zY:=zY' hY
    rw[if_neg (fun hc=>hY (all2.1 hc).2),if_neg (by decide)]
    exact af ok (avg E P m X Y (ak E P (wX (ae X)))) (by simp only[SV,jK,jZ,ku,pY,List.forall_mem_cons];(repeat' apply And.intro)<;>first|exact⟨⟩|with_reducible (first|rfl|assumption)|(intro c hc;cases hc)) (by simp) g rfl rfl
  ·have zX:=SX hX
   rw[if_neg (fun hc=>hX (all2.1 hc).1),if_neg (by decide)]
   exact af ok (avf E P m X Y) (by simp only[SS,jK,jZ,List.forall_mem_cons];(repeat' apply And.intro)<;>first|exact⟨⟩|with_reducible (first|rfl|assumption)|(intro c hc;cases hc)) (by simp) g rfl rfl
 ·have hc:(gq E P !=0)=true:=by unfold gq;rw[if_neg h];rfl
  have eE:bi E P m [X,Y]=2:=by
   unfold bi vV
   rw[if_neg h]
   split<;>rfl
  rw[eE,if_neg (by decide)]
  exact af ok (avb E P m X Y) (by simp only[SL,List.forall_mem_cons];(repeat' apply And.intro)<;>first|exact⟨⟩|with_reducible (first|rfl|assumption)|(intro c hc;cases hc)) (by simp) g rfl rfl
end Go.Proofs.YtnapiakfbihnjaaGreatDoor
