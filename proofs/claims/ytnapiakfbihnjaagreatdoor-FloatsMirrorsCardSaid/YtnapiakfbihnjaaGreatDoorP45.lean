/-
  The machine's Decode: the kind, the sign, and some text.
-/
import Derived.Test.YtnapiakfbihnjaaGreatDoorP35
import Derived.Test.YtnapiakfbihnjaaGreatDoorP44
set_option linter.unusedVariables false
set_option linter.unusedSimpArgs false
namespace Go.Proofs.YtnapiakfbihnjaaGreatDoor
open Go.RowKit Go.Shelf Go.Canon
def deC:CF→St→Option (Value×St):=orElse xE (orElse qI (orElse uq ajs))
theorem aqn:aN Tryz.prog deC:=aA qJ (aA mr (aA o9 ag6))
noncomputable def avv(E P X:Int)(an:List Bool)(n:Nat):Option (Value×Option gW×List (Bool×Bool)):=dJ Tryz.prog TL (nest deC 6) 1000 64 [.v (kH E P),.v (ae X)] an n
def YG(E P X:Int)(na:Bool):L_:=[t_,(decide (inT (aK E P (wX (ae X))) (az E P)),T_),(decide (aK E P (wX (ae X))<0)==decide (aK E P (wX (ae X))<0),T_),t_,f_,t_,t_,t_,f_,f_,t_,t_,(ak E P (wX (ae X)),na),(decide (aG E P)&&(wB (ae X)&&decide (wX (ae X)<2*ai E P)),T_),(!decide (wX (ae X)/2^(IntKind.i64.wrap (E+P)).toNat/18446744073709551616=0∧wX (ae X)/2^(IntKind.i64.wrap (E+P)).toNat%18446744073709551616=0),F_),(wB (ae X)&&decide (0≤(IntKind.i64.wrap (E+P))∧(IntKind.i64.wrap (E+P))≤127),T_),t_,t_,t_,t_,t_,f_,t_,t_,t_,f_,f_,(gq E P !=0,F_),t_]
set_option maxRecDepth 1000000 in
theorem ayA(E P X:Int)(na:Bool):avv E P X [F_,F_,F_,F_,T_,F_,na,F_,F_,F_,T_] 30=some (.tuple #[.agg #[.int .i64 (kindOf E P (wX (ae X))),.bool na,.complex .f64 30 0],.int .i64 0],some (.ghost 3 []),YG E P X na):=by kernel_rfl
def ajt(E P X:Int):bP:=⟨some (.s []),.tuple #[.agg #[.int .i64 (kindOf E P X),.bool (ak E P X),aqp],.int .i64 0]⟩
theorem Xj{E P X:Int}(h:aG E P)(x0:0≤X)(hX:X<2*ai E P):dU Tryz.prog TL 64 [.v (kH E P),.v (ae X)] (ajt E P X):=by
 have hs:=dV h
 have g: ∀x,Ar.v x∈ [Ar.v (kH E P),.v (ae X)]→ground 9 x=true:=fun x hx=>by
  simp at hx;rcases hx with rfl|rfl<;>rfl
 have ok:=rC aqn 6
 have hc:(gq E P !=0)=false:=by unfold gq;rw[if_pos h];rfl
 obtain⟨nrX,AC,zX,_⟩:=Gi h x0 (show X<aW by omega)
 have AC:=AC hX
 have zX:=zX hX
 have nX:ak E P (wX (ae X))=ak E P X:=by rw[ag]
 have it:decide (inT (aK E P (wX (ae X))) (az E P))=true:=by
  rw[ag]
  have hbr:=dN h.1 h.2.1
  have hP:=h.2.2.2.1
  have hP2:=h.2.2.1
  have hfe:az E P=1-aH E-P+1:=rfl
  obtain⟨z0,z1⟩:=Gq (E:=E) (P:=P) x0 hX
  have kr:=gu E P X
  have hlt:((aK E P X).natAbs:Int)<2^3000:=by
   by_cases k12:kindOf E P X=1∨kindOf E P X=2
   ·obtain⟨a1,_⟩:=zJ h x0 hX k12
    have:=rG (show 2200≤3000 by omega)
    omega
   ·have hsg:ai E P≤2^127:=by
     obtain⟨a,b,c,d,e⟩:=h
     unfold ai
     exact rG (by omega)
    have hd:(0:Int)-az E P≤1300:=by omega
    have hm: ∀z:Int,(z.natAbs:Int)≤2^128→((z*2^(0-az E P).toNat).natAbs:Int)<2^3000:=fun z hz=>by
     rw[Int.natAbs_mul,Int.natCast_mul]
     have e1:((((2:Int)^(0-az E P).toNat).natAbs:Nat):Int)=2^(0-az E P).toNat:=by
      have:=au (0-az E P).toNat;omega
     rw[e1]
     have h1:=Int.mul_le_mul_of_nonneg_right hz (Int.le_of_lt (au (0-az E P).toNat))
     rw[←Int.pow_add]at h1
     have h2:=rG (show 128+(0-az E P).toNat≤2999 by omega)
     have h3:(2:Int)^3000=2^2999*2:=Int.pow_succ _ _
     have:=au 2999
     omega
    have e128:(2:Int)^128=2^127*2:=Int.pow_succ _ _
    have hi:=dR h
    have hq:=wU h
    have p3:=au 3000
    have hsd:ai E P=2^(E+P-1).toNat:=rfl
    unfold aK
    rw[if_neg (by omega)]
    split
    ·exact hm _ (by omega)
    ·split
     ·exact hm _ (by omega)
     ·exact p3
  exact decide_eq_true ⟨hlt,by omega,by omega⟩
 exact nJ dH mX qL gTL Ei AQ ok (by simp) g (ayA E P X (ak E P (wX (ae X)))) (by simp only[YG,List.forall_mem_cons];(repeat' apply And.intro)<;>first|exact⟨⟩|with_reducible (first|rfl|assumption)|simp) ⟨by rw[ag];rfl,rfl,rfl⟩
def deS(xs:List Ar):Option bP:=match xs with
 |[.v a,.v b]=>match fmt2 a with
  |some (E,P)=>some (ajt E P (wX b))
  |none=>none
 |_=>none
def deP(xs:List Ar):Bool:=match xs with
 |[.v a,.v b]=>match fmt2 a with
  |some (E,P)=>decide (aG E P)&&(wB b&&decide (wX b<2*ai E P))
  |none=>false
 |_=>false
def aju:CF→St→Option (Value×St):=bF 64 (aZ TL deP deS)
theorem ag7:aN Tryz.prog aju:=aP dH gTL QE fun xs R h hp=>by
 unfold deS at h
 split at h
 ·split at h
  ·rename_i hm
   injection h with h
   subst h
   unfold deP at hp
   simp only[hm,Bool.and_eq_true]at hp
   rw[rH hm]
   have:=Xj (of_decide_eq_true hp.1) (jW hp.2.1).1 (of_decide_eq_true hp.2.2)
   rw[←AU hp.2.1]at this
   exact this
  ·cases h
 ·cases h
end Go.Proofs.YtnapiakfbihnjaaGreatDoor
