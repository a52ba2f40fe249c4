/-
  Add of numbers: its contract. The difference of two numbers, each at most twice the other one, is a value.
-/
import Derived.Test.YtnapiakfbihnjaaGreatDoorP30
import Derived.Test.YtnapiakfbihnjaaGreatDoorP08
import Derived.OpenShut
import Derived.WideShapes
import Derived.Test.YtnapiakfbihnjaaGreatDoorRows
import Derived.ProofKit
import Derived.LaidMore
set_option linter.unusedVariables false
set_option linter.unusedSimpArgs false
set_option linter.unusedSectionVars false
namespace Go.Proofs.YtnapiakfbihnjaaGreatDoor
open Go.RowKit Go.Shelf Go.Canon
theorem Gq{E P X:Int}(h0:0≤X)(h1:X<2*ai E P):0≤dG E P X∧dG E P X<ai E P:=by
 unfold dG sizeOf';split<;>omega
theorem ai5{E P X:Int}(h:kindOf E P X=2):dG E P X<aB E P:=by
 unfold kindOf at h
 split at h
 ·omega
 ·split at h
  ·omega
  ·split at h
   ·assumption
   ·split at h<;>omega
theorem ai6{E P X:Int}(h:aG E P)(h0:0≤X)(h1:X<2*ai E P)(hk:kindOf E P X=1∨kindOf E P X=2):
 ∃(d:Int) (e:Nat),((aK E P X).natAbs:Int)=d*2^e∧0≤d∧d<2^P.toNat∧(e:Int)≤2*aH E-1:=by
 have hbr:=dN h.1 h.2.1
 rcases hk with hk|hk
 ·refine⟨0,0,?_,by omega,au _,by omega⟩
  unfold aK
  rw[hk];simp
 ·have hs:=Gq (E:=E) (P:=P) h0 h1
  have hlt:=ai5 hk
  obtain⟨f0,f1,f2,d0,d1,_⟩:=Jg h hs.1 hlt
  have hbe:=N9 h.1
  have hP2:(2:Int)^P.toNat=2*2^(P-1).toNat:=by
   have:=h.2.2.1
   rw[show P.toNat=(P-1).toNat+1 by omega,Int.pow_succ];omega
  have hl:0≤lK P (dG E P X)∧lK P (dG E P X)≤2*aH E-1:=by unfold lK;split<;>omega
  refine⟨qw P (dG E P X),(lK P (dG E P X)).toNat,?_,d0,by omega,by omega⟩
  have hm:0≤ni P (dG E P X):=Int.mul_nonneg d0 (Int.le_of_lt (au _))
  unfold aK
  rw[if_pos hk]
  show _=ni P (dG E P X)
  unfold Fj
  split<;>omega
theorem apx{E P d:Int}{e:Nat}(h:aG E P)(h0:0≤d)(h1:d<2^P.toNat)(h2:(e:Int)≤2*aH E-1):d*2^e<2^(2*aH E-1+P).toNat:=by
 have:=h.2.2.1
 have h3:d*2^e<2^P.toNat*2^e:=Int.mul_lt_mul_of_pos_right h1 (au e)
 rw[←Int.pow_add]at h3
 have h4:=Bj (show P.toNat+e≤(2*aH E-1+P).toNat by omega)
 have h5:=Int.mul_le_mul_of_nonneg_right (show(1:Int)≤2^((2*aH E-1+P).toNat-(P.toNat+e))from au _) (Int.le_of_lt (au (P.toNat+e)))
 omega
theorem NV{E P:Int}(h:aG E P):(2:Int)*2^(2*aH E-1+P).toNat<gz:=by
 have hbr:=dN h.1 h.2.1
 obtain⟨f1,f2,f3,f4,f5⟩:=h
 unfold gz
 have h4:=Bj (show(2*aH E-1+P).toNat≤3000 by omega)
 have h5:=Bj (show(3000:Nat)≤60000 by omega)
 have h6:(4:Int)≤2^(60000-3000):=by
  have:=Bj (show(2:Nat)≤60000-3000 by omega)
  have h7:=au (60000-3000-2)
  have h8:(2:Int)^2=4:=by decide
  omega
 have h7:=au (2*aH E-1+P).toNat
 have h8:=Int.mul_le_mul_of_nonneg_right (show(1:Int)≤2^(3000-(2*aH E-1+P).toNat)from au _) (Int.le_of_lt h7)
 have h9:=Int.mul_le_mul_of_nonneg_right h6 (Int.le_of_lt (au 3000))
 have h10:=au 3000
 generalize (2:Int)^3000=a at*
 generalize (2:Int)^60000=b at*
 generalize (2:Int)^(2*aH E-1+P).toNat=c at*
 omega
theorem LK{E P X:Int}(h:aG E P)(h0:0≤X)(h1:X<2*ai E P)(hk:kindOf E P X=1∨kindOf E P X=2):((aK E P X).natAbs:Int)<2^(2*aH E-1+P).toNat:=by
 obtain⟨d,e,h2,h3,h4,h5⟩:=ai6 h h0 h1 hk
 rw[h2];exact apx h h3 h4 h5
theorem JV(K k:Int):Bf K k k=K:=by unfold Bf;rw[show(k-min k k)=0 by omega];simp
theorem zl(E P K L:Int):sK E P K L=K+L:=by unfold sK;rw[JV,JV]
theorem IK(E P:Int):fi E P=az E P:=by unfold fi;omega
def OB(E P m K L:Int)(na nb:Bool):Int:=if K+L=0 then(if(if na=nb then na else decide (m=4))=true then ai E P else 0)else mY E P m (K+L) (az E P)
def OC(E P m K L:Int):Int:=if K+L=0 then 0 else mZ E P m (K+L) (az E P)
theorem ai7(E P m X Y:Int): ∀x,Ar.v x∈ [Ar.v (kH E P),.v (.int .i64 m),.v (ae X),.v (ae Y)]→ground 9 x=true:=fun x hx=>by
 simp at hx;rcases hx with rfl|rfl|rfl|rfl<;>rfl
theorem mM{l:List (Bool×Bool)}(hl: ∀c∈l,c.1=c.2): ∀n,∀c∈ug n l,c.1=c.2
 |0=>hl
 |n+1=>by unfold ug;simp only[List.forall_mem_cons];exact⟨trivial,mM hl n⟩
theorem ZJ{E P X:Int}{neg:Bool}(h:aG E P)(h0:0≤X)(h1:X<2*ai E P)(hn:ak E P X=neg){l:List (Bool×Bool)}(hl: ∀c∈l,c.1=c.2): ∀c∈ab3 E P X neg l,c.1=c.2:=by
 have hs:=dV h
 have bX:wB (ae X)=true:=dh h0 (by omega)
 have hw:IntKind.i64.wrap (E+P)=E+P:=nC (by obtain⟨a,b,c,d,e⟩:=h;omega)
 have h2:(2:Int)^(E+P).toNat=2*ai E P:=by
  obtain⟨a,b,c,d,e⟩:=h
  unfold ai
  rw[show(E+P).toNat=(E+P-1).toNat+1 by omega,Int.pow_succ];omega
 have hz:X/(2*ai E P)=0:=Int.ediv_eq_zero_of_lt h0 h1
 unfold ab3
 simp only[List.forall_mem_cons,ag,hw,h2,bX,hz]
 refine⟨trivial,trivial,hn,by simp[h,h1],by simp,?_,trivial,trivial,trivial,trivial,trivial,hl⟩
 rw[decide_eq_true (show 0≤E+P∧E+P≤127 by obtain⟨a,b,c,d,e⟩:=h;omega)];rfl
theorem ZK{E P X:Int}(hk:kindOf E P X=1∨kindOf E P X=2){l:List (Bool×Bool)}(hl: ∀c∈l,c.1=c.2): ∀c∈ab4 E P X l,c.1=c.2:=by
 have e5:(kindOf E P X==5)=false:=by simp;omega
 have e4:(kindOf E P X==4)=false:=by simp;omega
 unfold ab4 aj
 simp only[List.forall_mem_cons,ag]
 exact⟨e5,trivial,e5,trivial,e4,trivial,trivial,trivial,trivial,hl⟩
theorem apy{E P m X Y:Int}{na nb:Bool}(h:aG E P)(m0:0≤m)(m1:m≤4)(x0:0≤X)(x1:X<2*ai E P)(y0:0≤Y)(y1:Y<2*ai E P)(kx:kindOf E P X=1∨kindOf E P X=2)(ky:kindOf E P Y=1∨kindOf E P Y=2)
 (hna:ak E P X=na) (hnb:ak E P Y=nb): ∀c∈uf E P m X Y na nb,c.1=c.2:=by
 unfold uf
 simp only[List.forall_mem_cons]
 refine⟨trivial,ZK ky (ZK kx ?_)⟩
 unfold auq
 simp only[List.forall_mem_cons]
 refine⟨trivial,trivial,ZJ h y0 y1 hnb (ZJ h x0 x1 hna ?_)⟩
 simp only[List.forall_mem_cons]
 refine⟨trivial,trivial,trivial,by simp;omega,by simp;omega,by unfold gq;rw[if_pos h];simp,trivial,fun c hc=>by cases hc⟩
theorem nH{E P X Y K L:Int}{nz:Bool}(h:aG E P)(kx:kindOf E P X=1∨kindOf E P X=2)(ky:kindOf E P Y=1∨kindOf E P Y=2)(hK:(K.natAbs:Int)<2^(2*aH E-1+P).toNat)(hL:(L.natAbs:Int)<2^(2*aH E-1+P).toNat)
 (hnz:(K+L !=0)=nz) {l:List (Bool×Bool)} (hl: ∀c∈l,c.1=c.2): ∀c∈vG E P X Y K L nz l,c.1=c.2:=by
 have hm:=NV h
 have hbr:=dN h.1 h.2.1
 have hf: -1200≤az E P∧az E P≤0:=⟨by have:=h.2.2.2.1;unfold az;omega,IA h⟩
 have e3x:(kindOf E P X==3)=false:=by simp;omega
 have e3y:(kindOf E P Y==3)=false:=by simp;omega
 have hsg:(pV (K+L) !=0)=nz:=by
  rw[←hnz]
  unfold pV
  by_cases hz:K+L=0
  ·rw[if_pos hz,hz]
  ·rw[if_neg hz]
   have:(K+L !=0)=true:=by simpa using hz
   rw[this]
   split<;>rfl
 unfold vG aj
 simp only[List.forall_mem_cons,ag,zl,JV,IK]
 refine⟨hsg,trivial,by simp,trivial,?_,by simp,by simp,e3y,trivial,e3x,trivial,e3x,trivial,trivial,trivial,trivial,trivial,hl⟩
 rw[decide_eq_true (show inB K (az E P)from⟨by omega,by omega,by omega,by omega⟩),decide_eq_true (show inB L (az E P)from⟨by omega,by omega,by omega,by omega⟩)];rfl
theorem IL{E P m K L:Int}(h:aG E P)(m0:0≤m)(m1:m≤4)(hK:(K.natAbs:Int)<2^(2*aH E-1+P).toNat)(hL:(L.natAbs:Int)<2^(2*aH E-1+P).toNat)
 {l:List (Bool×Bool)} (hl: ∀c∈l,c.1=c.2): ∀c∈Oe E P m K L l,c.1=c.2:=by
 have hm:=NV h
 have hbr:=dN h.1 h.2.1
 have hf: -1200≤az E P∧az E P≤0:=⟨by have:=h.2.2.2.1;unfold az;omega,IA h⟩
 unfold Oe
 simp only[List.forall_mem_cons,zl,IK]
 refine⟨?_,by simp,hl⟩
 rw[decide_eq_true h,decide_eq_true (show 0≤m∧m≤4 from⟨m0,m1⟩),decide_eq_true (show inB (K+L) (az E P)∧ -40000≤az E P from⟨⟨by omega,by omega,by omega,by omega⟩,by omega⟩)];rfl
theorem uF{E P m:Int}{m4 eq:Bool}(h:aG E P)(hm4:(m==4)=m4){l:List (Bool×Bool)}(hl: ∀c∈l,c.1=c.2): ∀c∈CS E P m m4 eq l,c.1=c.2:=by
 have hs:=dV h
 have b0:wB bC=true:=rfl
 have x0:wX bC=0:=rfl
 unfold CS
 simp only[List.forall_mem_cons,b0,x0]
 exact⟨by simp[h,hs.1],trivial,trivial,trivial,hm4,trivial,hl⟩
theorem agU{E P m X Y:Int}(h:aG E P)(m0:0≤m)(m1:m≤4)(x0:0≤X)(x1:X<2*ai E P)(y0:0≤Y)(y1:Y<2*ai E P)(kx:kindOf E P X=1∨kindOf E P X=2)(ky:kindOf E P Y=1∨kindOf E P Y=2):
 dU Tryz.prog TR 6 [.v (kH E P),.v (.int .i64 m),.v (ae X),.v (ae Y)] ⟨none,.tuple #[ae (OB E P m (aK E P X) (aK E P Y) (ak E P X) (ak E P Y)),.int .i64 (OC E P m (aK E P X) (aK E P Y)),.int .i64 0]⟩:=by
 have hK:=LK h x0 x1 kx
 have hL0:=LK h y0 y1 ky
 have hL:(((aK E P Y)).natAbs:Int)<2^(2*aH E-1+P).toNat:=by omega
 have g:=ai7 E P m X Y
 have ok:=rC afS 6
 have dX:dK E P X=aK E P X:=by unfold dK;rw[ag]
 have dY:dK E P Y=aK E P Y:=by unfold dK;rw[ag]
 have z0:wX bC=0:=rfl
 have base: ∀na nb,ak E P X=na→ak E P Y=nb→ ∀c∈uf E P m X Y na nb,c.1=c.2:=by
  intro na nb e1 e2
  exact apy h m0 m1 x0 x1 y0 y1 kx ky e1 e2
 by_cases hz:aK E P X+(aK E P Y)=0
 ·have hnz:(aK E P X+(aK E P Y) !=0)=false:=by simpa using hz
  have vF:OC E P m (aK E P X) (aK E P Y)=0:=by unfold OC;rw[if_pos hz]
  rw[vF]
  unfold OB
  rw[if_pos hz]
  cases hna:ak E P X<;>cases hnb:ak E P Y<;>cases hm4:(m==4)
  ·have hrun:=aiT E P m X Y
   rw[dX,dY]at hrun
   have hm:decide (m=4)=false:=by simpa using hm4
   refine af ok hrun (mM (uF h hm4 (nH h kx ky hK hL hnz (base _ _ hna hnb))) 6) (by simp) g ?_ rfl
   simp[hm,z0]
  ·have hrun:=aiU E P m X Y
   rw[dX,dY]at hrun
   have hm:decide (m=4)=true:=by simpa using hm4
   refine af ok hrun (mM (uF h hm4 (nH h kx ky hK hL hnz (base _ _ hna hnb))) 6) (by simp) g ?_ rfl
   simp[hm,z0]
  ·have hrun:=aiW E P m X Y
   rw[dX,dY]at hrun
   have hm:decide (m=4)=false:=by simpa using hm4
   refine af ok hrun (mM (uF h hm4 (nH h kx ky hK hL hnz (base _ _ hna hnb))) 6) (by simp) g ?_ rfl
   simp[hm,z0]
  ·have hrun:=aiY E P m X Y
   rw[dX,dY]at hrun
   have hm:decide (m=4)=true:=by simpa using hm4
   refine af ok hrun (mM (uF h hm4 (nH h kx ky hK hL hnz (base _ _ hna hnb))) 6) (by simp) g ?_ rfl
   simp[hm,z0]
  ·have hrun:=ai0 E P m X Y
   rw[dX,dY]at hrun
   have hm:decide (m=4)=false:=by simpa using hm4
   refine af ok hrun (mM (uF h hm4 (nH h kx ky hK hL hnz (base _ _ hna hnb))) 6) (by simp) g ?_ rfl
   simp[hm,z0]
  ·have hrun:=ai1 E P m X Y
   rw[dX,dY]at hrun
   have hm:decide (m=4)=true:=by simpa using hm4
   refine af ok hrun (mM (uF h hm4 (nH h kx ky hK hL hnz (base _ _ hna hnb))) 6) (by simp) g ?_ rfl
   simp[hm,z0]
  ·have hrun:=ai3 E P m X Y
   rw[dX,dY]at hrun
   have hm:decide (m=4)=false:=by simpa using hm4
   refine af ok hrun (mM (uF h hm4 (nH h kx ky hK hL hnz (base _ _ hna hnb))) 6) (by simp) g ?_ rfl
   simp[hm,z0]
  ·have hrun:=ai4 E P m X Y
   rw[dX,dY]at hrun
   have hm:decide (m=4)=true:=by simpa using hm4
   refine af ok hrun (mM (uF h hm4 (nH h kx ky hK hL hnz (base _ _ hna hnb))) 6) (by simp) g ?_ rfl
   simp[hm,z0]
 ·have hnz:(aK E P X+(aK E P Y) !=0)=true:=by simpa using hz
  have vF:OC E P m (aK E P X) (aK E P Y)=mZ E P m (aK E P X+(aK E P Y)) (az E P):=by unfold OC;rw[if_neg hz]
  have vW: ∀na nb,OB E P m (aK E P X) (aK E P Y) na nb=mY E P m (aK E P X+(aK E P Y)) (az E P):=fun na nb=>by unfold OB;rw[if_neg hz]
  rw[vF,vW]
  cases hna:ak E P X<;>cases hnb:ak E P Y
  ·have hrun:=aiS E P m X Y
   rw[dX,dY]at hrun
   refine af ok hrun (mM (IL h m0 m1 hK hL (nH h kx ky hK hL hnz (base _ _ hna hnb))) 5) (by simp) g ?_ rfl
   rw[zl,IK]
  ·have hrun:=aiV E P m X Y
   rw[dX,dY]at hrun
   refine af ok hrun (mM (IL h m0 m1 hK hL (nH h kx ky hK hL hnz (base _ _ hna hnb))) 5) (by simp) g ?_ rfl
   rw[zl,IK]
  ·have hrun:=aiZ E P m X Y
   rw[dX,dY]at hrun
   refine af ok hrun (mM (IL h m0 m1 hK hL (nH h kx ky hK hL hnz (base _ _ hna hnb))) 5) (by simp) g ?_ rfl
   rw[zl,IK]
  ·have hrun:=ai2 E P m X Y
   rw[dX,dY]at hrun
   refine af ok hrun (mM (IL h m0 m1 hK hL (nH h kx ky hK hL hnz (base _ _ hna hnb))) 5) (by simp) g ?_ rfl
   rw[zl,IK]
end Go.Proofs.YtnapiakfbihnjaaGreatDoor
namespace Go.Proofs.YtnapiakfbihnjaaGreatDoor
open Go.RowKit Go.Shelf Go.Canon Go.Proofs.Tryz
def TL:Tabs:=⟨1,[(0,aao),(9,QD)]⟩
theorem gTL:TL.g<prog.globals.size:=of_decide_eq_true (by kernel_rfl)
theorem Ei: ∀p∈TL.ro,p.1<prog.globals.size∧p.2.all (ground 3)=true∧p.1≠TL.g:=fun p hp=>by
 rcases List.mem_cons.1 hp with rfl|hp
 ·exact⟨of_decide_eq_true (by kernel_rfl),rfl,by decide⟩
 ·rcases List.mem_cons.1 hp with rfl|hp
  ·exact⟨of_decide_eq_true (by kernel_rfl),by kernel_rfl,by decide⟩
  ·cases hp
theorem QE: ∀p∈TL.ro,p.1<prog.globals.size∧p.2.all (ground 3)=true:=fun p hp=>⟨(Ei p hp).1,(Ei p hp).2.1⟩
theorem agX:ajr=Lib.deBruijn64tab.map fun z:Nat=>Value.int .u8 z:=by kernel_rfl
theorem adn:dU prog TL 20 [] ⟨none,.bool true⟩:=fun w hw he args' ha=>by
 have h0:args'= #[]:=by
  have:=uK ha
  simpa using this
 subst h0
 refine(Xd w hw fun p hp=>?_).mono fun e w1 ⟨h1,h2⟩=>⟨_,h1,rfl,h2⟩
 obtain⟨⟨o,ho,c,e,f,rfl,ht⟩,hr⟩:=he
 rcases List.mem_cons.1 hp with rfl|hp
 ·refine⟨c,e,f,ho,fun i v hv=>?_⟩
  rw[agX,List.getElem?_map]at hv
  cases hg:Lib.deBruijn64tab[i]? with
  |none=>rw[hg]at hv;cases hv
  |some z=>
   rw[hg]at hv
   obtain⟨hlt,hz⟩:=List.getElem?_eq_some_iff.1 hg
   rw[ht i hlt]
   rw[List.getD_eq_getElem?_getD,hg]
   exact hv
 ·exact hr p hp
def ado(xs:List Ar):Option bP:=match xs with
 |[]=>some ⟨none,.bool true⟩
 |_=>none
def adp:CF→St→Option (Value×St):=bF 20 (aZ TL (fun _=>true) ado)
theorem adr:aN prog adp:=aP dH gTL QE fun xs R h hp=>by
 unfold ado at h
 split at h
 ·injection h with h
  subst h
  exact adn
 ·cases h
end Go.Proofs.YtnapiakfbihnjaaGreatDoor
namespace Go.Proofs.YtnapiakfbihnjaaGreatDoor
open Go.RowKit Go.Shelf Go.Canon
def wv(h l:Int):Value:=.agg #[.int .u64 h,.int .u64 l]
def Lt(E P m ah al bh bl ch cl:Int):Value:=.agg #[.int .i64 E,.int .i64 P,.int .i64 m,.int .u64 ah,.int .u64 al,.int .u64 bh,.int .u64 bl,.int .u64 ch,.int .u64 cl]
theorem ad7{E P X:Int}(h:X=0∨X=ai E P)(hs:0<ai E P):kindOf E P X=1∧aK E P X=0:=by
 have hz:dG E P X=0:=by
  unfold dG sizeOf'
  rcases h with rfl|rfl
  ·split<;>omega
  ·split<;>omega
 have hk:kindOf E P X=1:=by unfold kindOf;rw[if_pos hz]
 refine⟨hk,?_⟩
 unfold aK
 rw[hk];simp
end Go.Proofs.YtnapiakfbihnjaaGreatDoor
namespace Go.Proofs.YtnapiakfbihnjaaGreatDoor
open Go.ChangeShapes Go.WideShapes Go.RowKit Go.Canon Go.Proofs.Tryz
theorem abv{α:Type}{l:List α}(h:l.length=2): ∃a0 a1,l=[a0,a1]:=by
 match l,h with
 |[a0,a1],_=>exact⟨a0,a1,rfl⟩
theorem ayW{α:Type}{l:List α}(h:l.length=5): ∃a0 a1 a2 a3 a4,l=[a0,a1,a2,a3,a4]:=by
 match l,h with
 |[a0,a1,a2,a3,a4],_=>exact⟨a0,a1,a2,a3,a4,rfl⟩
theorem ayY{α:Type}{l:List α}(h:l.length=9): ∃a0 a1 a2 a3 a4 a5 a6 a7 a8,l=[a0,a1,a2,a3,a4,a5,a6,a7,a8]:=by
 match l,h with
 |[a0,a1,a2,a3,a4,a5,a6,a7,a8],_=>exact⟨a0,a1,a2,a3,a4,a5,a6,a7,a8,rfl⟩
theorem c24:prog.cellsOf 24=1:=by kernel_rfl
theorem c3:prog.cellsOf 3=1:=by kernel_rfl
theorem c26:prog.cellsOf 26=2:=by kernel_rfl
theorem c23:prog.cellsOf 23=2:=by kernel_rfl
theorem c28:prog.cellsOf 28=9:=by kernel_rfl
section
variable {H:Type} {enc:TypeId×Value→H} {w:World} {base:Nat} {sp:Nat→Bool} {held:Bool} {fuel:Nat} {cs:List Value} {x:DataW H×List MemPlace}
def U3(h l:Int):DataW H:=.agg [.lit (.int .u64 h),.lit (.int .u64 l)]
def ahY(h l:Int):DataW H:=.agg [.lit (.int .i64 h),.lit (.int .i64 l)]
theorem GL(h:DataW.trod enc prog w base sp held fuel 26 cs=some x): ∃a b,cs=[.int .u64 a,.int .u64 b]∧x=(U3 a b,[])∧(Lit.int .u64 a).wf=true∧(Lit.int .u64 b).wf=true:=by
 obtain⟨xs,n,_,rfl,hlen,hl,hf⟩:=DataW.trod_struct underlying26 h
 rw[c26]at hlen
 obtain⟨y0,y1,rfl⟩:=abv (show xs.length=2 from hl)
 obtain⟨k0,k1,rfl⟩:=abv hlen
 ·clear h
  have h0:=hf 0 _ rfl
  have h1:=hf 1 _ rfl
  simp[c24]at h0 h1
  obtain⟨a,e0,rfl,s0⟩:=DataW.trod_int underlying24 h0
  obtain⟨b,e1,rfl,s1⟩:=DataW.trod_int underlying24 h1
  simp at e0 e1
  subst e0 e1
  exact⟨a,b,rfl,rfl,s0,s1⟩
theorem ahZ(h:DataW.trod enc prog w base sp held fuel 23 cs=some x): ∃a b,cs=[.int .i64 a,.int .i64 b]∧x=(ahY a b,[])∧(Lit.int .i64 a).wf=true∧(Lit.int .i64 b).wf=true:=by
 obtain⟨xs,n,_,rfl,hlen,hl,hf⟩:=DataW.trod_struct underlying23 h
 rw[c23]at hlen
 obtain⟨y0,y1,rfl⟩:=abv (show xs.length=2 from hl)
 obtain⟨k0,k1,rfl⟩:=abv hlen
 ·clear h
  have h0:=hf 0 _ rfl
  have h1:=hf 1 _ rfl
  simp[c3]at h0 h1
  obtain⟨a,e0,rfl,s0⟩:=DataW.trod_int underlying3 h0
  obtain⟨b,e1,rfl,s1⟩:=DataW.trod_int underlying3 h1
  simp at e0 e1
  subst e0 e1
  exact⟨a,b,rfl,rfl,s0,s1⟩
def abh(E P m ah al bh bl ch cl:Int):DataW H:=.agg [ahY E P,.lit (.int .i64 m),U3 ah al,U3 bh bl,U3 ch cl]
theorem an8{v:Value}{d:DataW H}{ps:List MemPlace}(h:DataW.Trod enc prog w base sp held 28 v d ps): ∃E P m ah al bh bl ch cl,v=Lt E P m ah al bh bl ch cl∧d=abh E P m ah al bh bl ch cl∧ps=[]∧
 ((Lit.int .i64 E).wf=true∧(Lit.int .i64 P).wf=true∧(Lit.int .i64 m).wf=true)∧(Lit.int .u64 ah).wf=true∧(Lit.int .u64 al).wf=true∧(Lit.int .u64 bh).wf=true∧(Lit.int .u64 bl).wf=true∧(Lit.int .u64 ch).wf=true∧(Lit.int .u64 cl).wf=true:=by
 obtain⟨fuel,hy⟩:=h
 obtain⟨xs,n,_,hx,hlen,hl,hf⟩:=DataW.trod_struct underlying28 hy
 rw[c28]at hlen
 have hv: ∃c:Array Value,v=.agg c:=by
  cases v<;>first|exact⟨_,rfl⟩|simp[Value.cells]at hlen
 obtain⟨c,rfl⟩:=hv
 obtain⟨c⟩:=c
 have hcs:(Value.agg ⟨c⟩).cells.toList=c:=rfl
 rw[hcs]at hlen hf
 obtain⟨y0,y1,y2,y3,y4,rfl⟩:=ayW (show xs.length=5 from hl)
 obtain⟨k0,k1,k2,k3,k4,k5,k6,k7,k8,rfl⟩:=ayY hlen
 ·clear hy
  have h0:=hf 0 _ rfl
  have h1:=hf 1 _ rfl
  have h2:=hf 2 _ rfl
  have h3:=hf 3 _ rfl
  have h4:=hf 4 _ rfl
  simp[c3,c23,c26]at h0 h1 h2 h3 h4
  obtain⟨E,P,e0,rfl,sE,sP⟩:=ahZ h0
  obtain⟨m,e1,rfl,sm⟩:=DataW.trod_int underlying3 h1
  obtain⟨ah,al,e2,rfl,s1,s2⟩:=GL h2
  obtain⟨bh,bl,e3,rfl,s3,s4⟩:=GL h3
  obtain⟨ch,cl,e4,rfl,s5,s6⟩:=GL h4
  simp at e0 e1 e2 e3 e4
  obtain⟨rfl,rfl⟩:=e0
  obtain⟨rfl,rfl⟩:=e2
  obtain⟨rfl,rfl⟩:=e3
  obtain⟨rfl,rfl⟩:=e4
  subst e1
  injection hx with hx1 hx2
  subst hx1 hx2
  exact⟨E,P,m,ah,al,bh,bl,ch,cl,rfl,rfl,rfl,⟨sE,sP,sm⟩,s1,s2,s3,s4,s5,s6⟩
theorem an9{E P m ah al bh bl ch cl:Int}(hi:(Lit.int .i64 E).wf=true∧(Lit.int .i64 P).wf=true∧(Lit.int .i64 m).wf=true)
 (s1:(Lit.int .u64 ah).wf=true) (s2:(Lit.int .u64 al).wf=true) (s3:(Lit.int .u64 bh).wf=true) (s4:(Lit.int .u64 bl).wf=true) (s5:(Lit.int .u64 ch).wf=true) (s6:(Lit.int .u64 cl).wf=true):
 DataW.Trod enc prog w base sp held 28 (Lt E P m ah al bh bl ch cl) (abh E P m ah al bh bl ch cl) []:=by
 obtain⟨i1,i2,i3⟩:=hi
 refine⟨3,?_⟩
 simp[DataW.trod,Lt,abh,U3,ahY,Value.cells,underlying28,underlying23,underlying26,underlying3,underlying24,c3,c24,c26,c23,c28,i1,i2,i3,s1,s2,s3,s4,s5,s6,List.range,List.range.loop]
end
theorem ajV{a b:Int}(h0:(Lit.int .u64 a).wf=true)(h1:(Lit.int .u64 b).wf=true):wB (wv a b)=true:=by
 have:=bounds_u64 h0
 have:=bounds_u64 h1
 show decide (0≤a∧a<18446744073709551616∧0≤b∧b<18446744073709551616)=true
 exact decide_eq_true ⟨by omega,by omega,by omega,by omega⟩
end Go.Proofs.YtnapiakfbihnjaaGreatDoor
namespace Go.Proofs.YtnapiakfbihnjaaGreatDoor.floatsMirrors
open Go.ChangeShapes Go.WideShapes Go.ChangeAt Go.RowKit Go.Canon
noncomputable def arg0:Value:=Lt 0 0 0 0 0 0 0 0 0
noncomputable def laidWorld(os:Os):World:=
 {World.doorLaid Tryz.prog 77 os with heap:=(World.doorLaid Tryz.prog 77 os).heap.modify 7 fun
  |.cells _ t frozen=>.cells (Go.Pinned.utf8FirstZ.map fun(n:Nat)=>Value.int .u8 n).toArray t frozen
  |o=>o}
theorem laid_met(os:Os):laidMet Tryz.prog Rows.floatsMirrorsRow.laid ((laidWorld os).forCall (fun _ _=>0) ⟨#[], #[arg0],[]⟩).memory:=
 laidMet_of_run' 8 (by kernel_rfl) (by kernel_rfl)
theorem reads(os:Os){H:Type}(enc:TypeId×Value→H): ∃places,DataW.whole enc Tryz.prog ((laidWorld os).forCall (fun _ _=>0) ⟨#[], #[arg0],[]⟩).memory Tryz.f4.params.toList Rows.floatsMirrorsSpec.vars false #[arg0].toList 8=some ([abh 0 0 0 0 0 0 0 0 0],[],places):=
 ⟨[],by kernel_rfl⟩
end Go.Proofs.YtnapiakfbihnjaaGreatDoor.floatsMirrors
