/-
  What a word stands for.
-/
import Derived.Test.YtnapiakfbihnjaaGreatDoorP25
set_option linter.unusedVariables false
set_option linter.unusedSimpArgs false
set_option maxRecDepth 1000000
namespace Go.Proofs.YtnapiakfbihnjaaGreatDoor
open Go.RowKit Go.Shelf Go.Canon Tryz
def ZQ:CF→St→Option (Value×St):=orElse P6 (orElse nK (orElse Dj (orElse QL (orElse ZP (orElse LP U7)))))
theorem lD:aN prog ZQ:=aA U9 (aA lG (aA xH (aA JL (aA aco (aA GM PW)))))
def Ah(kind:Int)(neg:Bool)(K:Int):Value:=.agg #[.int .i64 kind,.bool neg,.bool (decide (K<0)),.complex .f64 0 1,.complex .f64 0 2,.complex .f64 0 3]
def Jf(kind:Int)(neg:Bool):Value:=.agg #[.int .i64 kind,.bool neg,.bool false,.slice none 0 0,.slice none 0 0,.int .i64 0]
def dS(E P X:Int):Int:=sizeOf' E P (wX (ae X))
def eqW(X Y:Int):Bool:=decide (X/18446744073709551616=Y/18446744073709551616∧X%18446744073709551616=Y%18446744073709551616)
def WR(E P X:Int)(neg z:Bool):L_:=[(decide (dS E P X/18446744073709551616=0∧dS E P X%18446744073709551616=0),z),t_,t_,(decide (aG E P),T_),(decide (aG E P),T_),t_,(decide (ai E P≤wX (ae X)),neg),(decide (aG E P)&&wB (ae X),T_)]
def WS(E P X:Int)(neg i:Bool):L_:=(eqW (dS E P X) (aB E P),i)::WR E P X neg false
def acr(E P X:Int)(neg f:Bool):L_:=(decide (wX (ae (dS E P X))<wX (ae (aB E P))),f)::(wB (ae (dS E P X))&&wB (ae (aB E P)),T_)::WS E P X neg false
def Oh(E P X:Int)(neg q:Bool):L_:=(decide (wX (ae (dS E P X))<wX (ae (aV E P))),q)::(wB (ae (dS E P X))&&wB (ae (aV E P)),T_)::acr E P X neg false
def yx(E P X B:Int):Value:=ae ((wX (ae (dS E P X))-wX (ae B))%aW)
def Oi(E P X B:Int)(l:List (Bool×Bool)):L_:=t_::(wB (yx E P X B)&&decide (wX (yx E P X B)<2^124),T_)::(wB (ae (dS E P X))&&wB (ae B),T_)::l
def acs(E P X:Int)(neg:Bool):L_:=t_::(decide (aG E P)&&(wB (ae (dS E P X))&&decide (wX (ae (dS E P X))<aB E P)),T_)::acr E P X neg true
noncomputable def sW(E P m X:Int)(an:List Bool)(n:Nat):Option (Value×Option gW×List (Bool×Bool)):=dJ prog TR ZQ 1000 124 [.v (ed E P m),.v (ae X)] an n
theorem apB(E P m X:Int):sW E P m X [true,true,true] 1=some (Jf 1 true,some (.fact 0),(true,true)::WR E P X true true):=by kernel_rfl
theorem apD(E P m X:Int):sW E P m X [T_,F_,T_,T_] 1=some (Jf 3 true,some (.fact 0),(true,true)::WS E P X true true):=by kernel_rfl
theorem apE(E P m X:Int):sW E P m X [T_,F_,F_,T_,T_] 19=some (subst 19 4 (Ah 2 true (Fj true (ni P (wX (ae (dS E P X)))))),some (.ghost 0 [Fj true (ni P (wX (ae (dS E P X)))),az E P]),acs E P X true):=by kernel_rfl
theorem apF(E P m X:Int):sW E P m X [T_,F_,F_,F_,T_,T_] 19=some (subst 19 4 (Ah 5 true (wX (yx E P X (aB E P)))),some (.ghost 0 [wX (yx E P X (aB E P)),0]),Oi E P X (aB E P) (Oh E P X true true)):=by kernel_rfl
theorem apI(E P m X:Int):sW E P m X [T_,F_,F_,F_,F_,T_] 19=some (subst 19 4 (Ah 4 true (wX (yx E P X (aV E P)))),some (.ghost 0 [wX (yx E P X (aV E P)),0]),Oi E P X (aV E P) (Oh E P X true false)):=by kernel_rfl
theorem apJ(E P m X:Int):sW E P m X [false,true,true] 1=some (Jf 1 false,some (.fact 0),(true,true)::WR E P X false true):=by kernel_rfl
theorem apM(E P m X:Int):sW E P m X [F_,F_,T_,T_] 1=some (Jf 3 false,some (.fact 0),(true,true)::WS E P X false true):=by kernel_rfl
theorem apN(E P m X:Int):sW E P m X [F_,F_,F_,T_,T_] 19=some (subst 19 4 (Ah 2 false (Fj false (ni P (wX (ae (dS E P X)))))),some (.ghost 0 [Fj false (ni P (wX (ae (dS E P X)))),az E P]),acs E P X false):=by kernel_rfl
theorem apO(E P m X:Int):sW E P m X [F_,F_,F_,F_,T_,T_] 19=some (subst 19 4 (Ah 5 false (wX (yx E P X (aB E P)))),some (.ghost 0 [wX (yx E P X (aB E P)),0]),Oi E P X (aB E P) (Oh E P X false true)):=by kernel_rfl
theorem apP(E P m X:Int):sW E P m X [F_,F_,F_,F_,F_,T_] 19=some (subst 19 4 (Ah 4 false (wX (yx E P X (aV E P)))),some (.ghost 0 [wX (yx E P X (aV E P)),0]),Oi E P X (aV E P) (Oh E P X false false)):=by kernel_rfl
def dG(E P X:Int):Int:=sizeOf' E P X
def kindOf(E P X:Int):Int:=if dG E P X=0 then 1 else if dG E P X=aB E P then 3 else if dG E P X<aB E P then 2 else if dG E P X<aV E P then 5 else 4
def ak(E P X:Int):Bool:=decide (ai E P≤X)
def aK(E P X:Int):Int:=
 if kindOf E P X=2 then Fj (ak E P X) (ni P (dG E P X))else if kindOf E P X=5 then(dG E P X-aB E P)*2^(0-az E P).toNat else if kindOf E P X=4 then(dG E P X-aV E P)*2^(0-az E P).toNat else 0
def Qm(kind:Int)(neg:Bool)(K k:Int):bP:=⟨some (.d K k),Ah kind neg K⟩
theorem Ob(w:World)(k:Int):aT.is w 0 [0,k] sZ:=Be.2 ⟨false,0,0,⟨none,0,0,none,0,0,rfl,.zero w,.inl ⟨rfl,rfl⟩⟩,.inl ⟨rfl,rfl,rfl,rfl⟩⟩
theorem MN{w:World}{v:Value}{kind k:Int}{neg:Bool}(h:jA w ⟨none,Jf kind neg⟩ v):jA w (Qm kind neg 0 k) v:=by
 have e:v=Jf kind neg:=h
 subst e
 refine⟨sZ,Ob w k,fun ρ n hn=>?_⟩
 exact aJ.ou (jU.tH (l:=[_,_,_,_,_,_]) (l':=[_,_,_,_,_,_]) ⟨.int _ _,.bool _,.bool _,.tok _ 1 _ _ hn rfl rfl,.tok _ 2 _ _ hn rfl rfl,.tok _ 3 _ _ hn rfl rfl,trivial⟩)
theorem af4(kind:Int)(neg:Bool)(K:Int)(j:Nat):Ah kind neg (K*2^j)=Ah kind neg K:=by
 have:=ML K j
 unfold qj at this
 injection this with this
 have e:decide (K*2^j<0)=decide (K<0):=by
  have:=congrArg (fun x:Array Value=>x[0]?) this
  simpa using this
 unfold Ah;rw[e]
theorem af5{w:World}{kind K k m:Int}{neg:Bool}{v:Value}(hm:m≤k)(h:jA w (Qm kind neg K k) v):jA w (Qm kind neg (K*2^(k-m).toNat) m) v:=by
 obtain⟨x,h1,h2⟩:=h
 refine⟨x,WP h1 m hm,fun ρ n hn=>?_⟩
 show aJ ρ (subst n 4 (Ah kind neg (K*2^(k-m).toNat))) v
 rw[af4]
 exact h2 ρ n hn
theorem DN{call:CF→St→Option (Value×St)}(hcall:aN prog call){g:Nat}{xs:List Ar}{an:List Bool}{n:Nat}{kind K k:Int}{neg:Bool}{cs:List (Bool×Bool)}
 (h:dJ prog TR call 1000 g xs an n=some (subst n 4 (Ah kind neg K),some (.ghost 0 [K,k]),cs)) (hcs: ∀c∈cs,c.1=c.2) (hlen:xs.length<2^38) (hgr: ∀x,Ar.v x∈xs→ground 9 x=true):dU prog TR g xs (Qm kind neg K k):=
 rW hcall h hcs hlen hgr ⟨rfl,rfl,rfl⟩
theorem apQ{X Y:Int}:eqW X Y=decide (X=Y):=by
 unfold eqW
 congr 1
 apply propext
 constructor
 ·intro⟨h1,h2⟩;omega
 ·rintro rfl;exact⟨rfl,rfl⟩
theorem IA{E P:Int}(h:aG E P):az E P≤0:=by
 have:=dN h.1 h.2.1
 have:=h.2.2.1
 unfold az;omega
theorem acv{E P m X:Int}(h:aG E P)(h0:0≤X)(h1:X<2*ai E P):dU prog TR 124 [.v (ed E P m),.v (ae X)] (Qm (kindOf E P X) (ak E P X) (aK E P X) (az E P)):=by
 have Wy:=dR h
 have hq:=wU h
 have hsg:=dV h
 have hfl:=IA h
 have bX:wB (ae X)=true:=dh h0 (by omega)
 have eS:dS E P X=dG E P X:=by unfold dS;rw[ag];rfl
 have s0:0≤dG E P X∧dG E P X<ai E P:=by unfold dG sizeOf';split<;>omega
 have hS2:ai E P=2^(E+P-1).toNat:=rfl
 have bS:wB (ae (dG E P X))=true:=dh s0.1 (by omega)
 have bI:wB (ae (aB E P))=true:=dh (by omega) (by omega)
 have bQ:wB (ae (aV E P))=true:=dh (by omega) (by omega)
 have g: ∀x,Ar.v x∈ [Ar.v (ed E P m),.v (ae X)]→ground 9 x=true:=fun x hx=>by
  simp at hx;rcases hx with rfl|rfl<;>rfl
 have aiy:(2:Int)^124=21267647932558653966460912964485513216:=by decide
 have hpay:aV E P-aB E P≤2^124∧ai E P-aV E P≤2^124:=by
  have hp2:=auC h.2.2.2.1
  have e1:ai E P-aB E P=2^(P-1).toNat:=by unfold ai aB;omega
  omega
 have z0: ∀neg z,decide (ai E P≤X)=neg→decide (dG E P X=0)=z→ ∀c∈WR E P X neg z,c.1=c.2:=by
  intro neg z e1 e2
  have e3:decide (dG E P X/18446744073709551616=0∧dG E P X%18446744073709551616=0)=decide (dG E P X=0):=by
   congr 1;apply propext;omega
  unfold WR
  simp only[List.forall_mem_cons,eS,ag]
  exact⟨e3.trans e2,trivial,trivial,decide_eq_true h,decide_eq_true h,trivial,e1,by simp[h,bX],fun c hc=>by cases hc⟩
 have z1: ∀neg i,decide (ai E P≤X)=neg→decide (dG E P X=0)=false→decide (dG E P X=aB E P)=i→ ∀c∈WS E P X neg i,c.1=c.2:=by
  intro neg i e1 e2 e3
  unfold WS
  simp only[List.forall_mem_cons,eS,apQ]
  exact⟨e3,z0 _ _ e1 e2⟩
 have z2: ∀neg f,decide (ai E P≤X)=neg→decide (dG E P X=0)=false→decide (dG E P X=aB E P)=false→decide (dG E P X<aB E P)=f→ ∀c∈acr E P X neg f,c.1=c.2:=by
  intro neg f e1 e2 e3 e4
  unfold acr
  simp only[List.forall_mem_cons,eS,ag]
  exact⟨e4,by rw[bS,bI];rfl,z1 _ _ e1 e2 e3⟩
 have z3: ∀neg q,decide (ai E P≤X)=neg→decide (dG E P X=0)=false→decide (dG E P X=aB E P)=false→decide (dG E P X<aB E P)=false→decide (dG E P X<aV E P)=q→ ∀c∈Oh E P X neg q,c.1=c.2:=by
  intro neg q e1 e2 e3 e4 e5
  unfold Oh
  simp only[List.forall_mem_cons,eS,ag]
  exact⟨e5,by rw[bS,bQ];rfl,z2 _ _ e1 e2 e3 e4⟩
 have pay: ∀B,0≤B→B≤dG E P X→yx E P X B=ae (dG E P X-B):=by
  intro B hB hB2
  unfold yx
  rw[eS,ag,ag,Int.emod_eq_of_lt (by omega) (by omega)]
 have z4: ∀B l,0≤B→B≤dG E P X→wB (ae B)=true→dG E P X-B<2^124→(∀c∈l,c.1=c.2)→ ∀c∈Oi E P X B l,c.1=c.2:=by
  intro B l hB hB2 hB3 hB4 hl
  unfold Oi
  rw[pay B hB hB2]
  simp only[List.forall_mem_cons,eS,ag]
  refine⟨trivial,?_,by rw[bS,hB3];rfl,hl⟩
  rw[dh (by omega) (by omega),decide_eq_true hB4];rfl
 have acy: ∀K kind neg v w,jA w (Qm kind neg K 0) v→jA w (Qm kind neg (K*2^(0-az E P).toNat) (az E P)) v:=fun K kind neg v w hr=>af5 hfl hr
 cases hn:decide (ai E P≤X)
 ·have hneg:ak E P X=false:=hn
  rw[hneg]
  by_cases c1:dG E P X=0
  ·have hk:kindOf E P X=1:=by unfold kindOf;rw[if_pos c1]
   have hK:aK E P X=0:=by unfold aK;rw[hk];rfl
   rw[hk,hK]
   refine jO (af lD (apJ E P m X) (by simp only[List.forall_mem_cons];exact⟨trivial,z0 _ _ hn (decide_eq_true c1)⟩) (by simp) g rfl rfl) fun w v hr=>MN hr
  by_cases c2:dG E P X=aB E P
  ·have hk:kindOf E P X=3:=by unfold kindOf;rw[if_neg c1,if_pos c2]
   have hK:aK E P X=0:=by unfold aK;rw[hk];rfl
   rw[hk,hK]
   refine jO (af lD (apM E P m X) (by simp only[List.forall_mem_cons];exact⟨trivial,z1 _ _ hn (decide_eq_false c1) (decide_eq_true c2)⟩) (by simp) g rfl rfl) fun w v hr=>MN hr
  by_cases c3:dG E P X<aB E P
  ·have hk:kindOf E P X=2:=by unfold kindOf;rw[if_neg c1,if_neg c2,if_pos c3]
   have hK:aK E P X=Fj false (ni P (dG E P X)):=by unfold aK;rw[hk,hneg];rfl
   rw[hk,hK]
   have hrun:=apN E P m X
   rw[eS,ag]at hrun
   refine DN lD hrun ?_ (by simp) g
   unfold acs
   simp only[List.forall_mem_cons,eS,ag]
   exact⟨trivial,by simp[h,bS,c3],z2 _ _ hn (decide_eq_false c1) (decide_eq_false c2) (decide_eq_true c3)⟩
  by_cases c4:dG E P X<aV E P
  ·have hk:kindOf E P X=5:=by unfold kindOf;rw[if_neg c1,if_neg c2,if_neg c3,if_pos c4]
   have hK:aK E P X=(dG E P X-aB E P)*2^(0-az E P).toNat:=by unfold aK;rw[hk];rfl
   rw[hk,hK]
   have hrun:=apO E P m X
   rw[pay _ (by omega) (by omega),ag]at hrun
   exact jO (DN lD hrun (z4 _ _ (by omega) (by omega) bI (by omega) (z3 _ _ hn (decide_eq_false c1) (decide_eq_false c2) (decide_eq_false c3) (decide_eq_true c4))) (by simp) g) fun w v hr=>acy _ _ _ _ _ hr
  ·have hk:kindOf E P X=4:=by unfold kindOf;rw[if_neg c1,if_neg c2,if_neg c3,if_neg c4]
   have hK:aK E P X=(dG E P X-aV E P)*2^(0-az E P).toNat:=by unfold aK;rw[hk];rfl
   rw[hk,hK]
   have hrun:=apP E P m X
   rw[pay _ (by omega) (by omega),ag]at hrun
   exact jO (DN lD hrun (z4 _ _ (by omega) (by omega) bQ (by omega) (z3 _ _ hn (decide_eq_false c1) (decide_eq_false c2) (decide_eq_false c3) (decide_eq_false c4))) (by simp) g) fun w v hr=>acy _ _ _ _ _ hr
 ·have hneg:ak E P X=true:=hn
  rw[hneg]
  by_cases c1:dG E P X=0
  ·have hk:kindOf E P X=1:=by unfold kindOf;rw[if_pos c1]
   have hK:aK E P X=0:=by unfold aK;rw[hk];rfl
   rw[hk,hK]
   refine jO (af lD (apB E P m X) (by simp only[List.forall_mem_cons];exact⟨trivial,z0 _ _ hn (decide_eq_true c1)⟩) (by simp) g rfl rfl) fun w v hr=>MN hr
  by_cases c2:dG E P X=aB E P
  ·have hk:kindOf E P X=3:=by unfold kindOf;rw[if_neg c1,if_pos c2]
   have hK:aK E P X=0:=by unfold aK;rw[hk];rfl
   rw[hk,hK]
   refine jO (af lD (apD E P m X) (by simp only[List.forall_mem_cons];exact⟨trivial,z1 _ _ hn (decide_eq_false c1) (decide_eq_true c2)⟩) (by simp) g rfl rfl) fun w v hr=>MN hr
  by_cases c3:dG E P X<aB E P
  ·have hk:kindOf E P X=2:=by unfold kindOf;rw[if_neg c1,if_neg c2,if_pos c3]
   have hK:aK E P X=Fj true (ni P (dG E P X)):=by unfold aK;rw[hk,hneg];rfl
   rw[hk,hK]
   have hrun:=apE E P m X
   rw[eS,ag]at hrun
   refine DN lD hrun ?_ (by simp) g
   unfold acs
   simp only[List.forall_mem_cons,eS,ag]
   exact⟨trivial,by simp[h,bS,c3],z2 _ _ hn (decide_eq_false c1) (decide_eq_false c2) (decide_eq_true c3)⟩
  by_cases c4:dG E P X<aV E P
  ·have hk:kindOf E P X=5:=by unfold kindOf;rw[if_neg c1,if_neg c2,if_neg c3,if_pos c4]
   have hK:aK E P X=(dG E P X-aB E P)*2^(0-az E P).toNat:=by unfold aK;rw[hk];rfl
   rw[hk,hK]
   have hrun:=apF E P m X
   rw[pay _ (by omega) (by omega),ag]at hrun
   exact jO (DN lD hrun (z4 _ _ (by omega) (by omega) bI (by omega) (z3 _ _ hn (decide_eq_false c1) (decide_eq_false c2) (decide_eq_false c3) (decide_eq_true c4))) (by simp) g) fun w v hr=>acy _ _ _ _ _ hr
  ·have hk:kindOf E P X=4:=by unfold kindOf;rw[if_neg c1,if_neg c2,if_neg c3,if_neg c4]
   have hK:aK E P X=(dG E P X-aV E P)*2^(0-az E P).toNat:=by unfold aK;rw[hk];rfl
   rw[hk,hK]
   have hrun:=apI E P m X
   rw[pay _ (by omega) (by omega),ag]at hrun
   exact jO (DN lD hrun (z4 _ _ (by omega) (by omega) bQ (by omega) (z3 _ _ hn (decide_eq_false c1) (decide_eq_false c2) (decide_eq_false c3) (decide_eq_false c4))) (by simp) g) fun w v hr=>acy _ _ _ _ _ hr
def ZR(xs:List Ar):Option bP:=match xs with
 |[.v a,.v b]=>match iw a with
  |some (E,P,_)=>some (Qm (kindOf E P (wX b)) (ak E P (wX b)) (aK E P (wX b)) (az E P))
  |none=>none
 |_=>none
def ZT(xs:List Ar):Bool:=match xs with
 |[.v a,.v b]=>match iw a with
  |some (E,P,_)=>decide (aG E P)&&(wB b&&decide (wX b<2*ai E P))
  |none=>false
 |_=>false
def uq:CF→St→Option (Value×St):=bF 124 (aZ TR ZT ZR)
theorem o9:aN prog uq:=aP dH xP oh fun xs R h hp=>by
 unfold ZR at h
 split at h
 ·split at h
  ·rename_i hm
   injection h with h
   subst h
   unfold ZT at hp
   simp only[hm,Bool.and_eq_true]at hp
   rw[jw hm,AU hp.2.1,ag]
   exact acv (of_decide_eq_true hp.1) (jW hp.2.1).1 (of_decide_eq_true hp.2.2)
  ·cases h
 ·cases h
end Go.Proofs.YtnapiakfbihnjaaGreatDoor
