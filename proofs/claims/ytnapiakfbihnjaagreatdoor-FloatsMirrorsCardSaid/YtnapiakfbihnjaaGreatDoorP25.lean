/-
  What a word of a number stands for.
-/
import Derived.Test.YtnapiakfbihnjaaGreatDoorP24
set_option linter.unusedVariables false
set_option linter.unusedSimpArgs false
set_option maxRecDepth 1000000
namespace Go.Proofs.YtnapiakfbihnjaaGreatDoor
open Go.RowKit Go.Shelf Go.Canon Tryz
theorem AU{b:Value}(h:wB b=true):b=ae (wX b):=by
 obtain⟨h1,l1,rfl,w1⟩:=pg h
 exact vY w1
theorem jW{b:Value}(h:wB b=true):0≤wX b∧wX b<aW:=by
 obtain⟨h1,l1,rfl,w1⟩:=pg h
 exact w1.range
theorem jO{P:Program}{T:Tabs}{g:FuncId}{xs:List Ar}{R R':bP}(h:dU P T g xs R)(hi: ∀w v,jA w R v→jA w R' v):dU P T g xs R':=
 fun w hw he args' ha=>(h w hw he args' ha).mono fun e w1 ⟨v,h1,h2,h3⟩=>⟨v,h1,hi _ _ h2,h3⟩
theorem ML(K:Int)(j:Nat):qj (K*2^j)=qj K:=by
 unfold qj
 have:decide (K*2^j<0)=decide (K<0):=by
  have hp:=au j
  by_cases h:K<0
  ·have:=Int.mul_neg_of_neg_of_pos h hp
   simp[h,this]
  ·have:=Int.mul_nonneg (show 0≤K by omega) (Int.le_of_lt hp)
   rw[decide_eq_false h,decide_eq_false (by omega)]
 rw[this]
theorem WP{w:World}{K k:Int}{x:Array Value}(h:aT.is w 0 [K,k] x)(m:Int)(hm:m≤k):aT.is w 0 [K*2^(k-m).toNat,m] x:=Be.2 ((Be.1 h).lower m hm)
theorem acj{w:World}{K k m:Int}{v:Value}(hm:m≤k)(h:jA w (lS K k) v):jA w (lS (K*2^(k-m).toNat) m) v:=by
 obtain⟨x,h1,h2⟩:=h
 refine⟨x,WP h1 m hm,fun ρ n hn=>?_⟩
 show aJ ρ (subst n 4 (qj (K*2^(k-m).toNat))) v
 rw[ML]
 exact h2 ρ n hn
theorem IM{call:CF→St→Option (Value×St)}(hcall:aN prog call){g:Nat}{xs:List Ar}{an:List Bool}{n:Nat}{K k:Int}{cs:List (Bool×Bool)}
 (h:dJ prog TR call 1000 g xs an n=some (subst n 4 (qj K),some (.ghost 0 [K,k]),cs)) (hcs: ∀c∈cs,c.1=c.2) (hlen:xs.length<2^38) (hgr: ∀x,Ar.v x∈xs→ground 9 x=true):dU prog TR g xs (lS K k):=
 rW hcall h hcs hlen hgr ⟨rfl,rfl,rfl⟩
def ZM:CF→St→Option (Value×St):=orElse qI (orElse QM (orElse LP (orElse U7 (orElse Iz (orElse JO ah0)))))
theorem yP:aN prog ZM:=aA mr (aA JM (aA GM (aA PW (aA EU (aA Ja Y8)))))
def fP(P:Int):Int:=IntKind.i64.wrap (P-1)
def fF(P X:Int):Int:=IntKind.i64.wrap (wX (ae X)/2^(fP P).toNat%18446744073709551616)
def fG(P X:Int):Value:=.agg #[.int .u64 0,.int .u64 (IntKind.u64.wrap (IntKind.i64.wrap (fF P X-1)))]
def fL(P X:Int):Value:=ae (wX (fG P X)*2^(fP P).toNat%aW)
def fW(P X:Int)(pos:Bool):Value:=match pos with
 |true=>ae ((wX (ae X)-wX (fL P X))%aW)
 |false=>ae X
def fE(E P X:Int):Int:=IntKind.i64.wrap (az E P+(if 0>IntKind.i64.wrap (fF P X-1)then 0 else IntKind.i64.wrap (fF P X-1)))
def WQ(P X:Int)(pos:Bool):L_:=[(decide (fF P X>0),pos),(wB (ae X)&&decide (0≤fP P∧fP P≤127),T_),t_,t_]
def ack(P X:Int):L_:=t_::(wB (ae X)&&wB (fL P X),T_)::(wB (fG P X)&&decide (0≤fP P∧fP P≤127),T_)::t_::WQ P X true
def Og(E P X:Int)(pos:Bool)(l:List (Bool×Bool)):L_:=
 (true,true)::(decide (inB (wX (fW P X pos)) 0∧ -20000≤fE E P X∧fE E P X≤20000),true)::(decide (wX (fW P X pos)<0)==decide (wX (fW P X pos)<0),true)::(decide (aG E P),true)::
  (wB (fW P X pos)&&decide (wX (fW P X pos)<2^124),true)::l
def acm(P X:Int)(pos:Bool)(l:List (Bool×Bool)):L_:=t_::t_::(decide (wX (fW P X pos)<0)==decide (wX (fW P X pos)<0),T_)::l
noncomputable def MM(E P m X:Int)(neg:Bool)(an:List Bool)(n:Nat):Option (Value×Option gW×List (Bool×Bool)):=dJ prog TR ZM 1000 185 [.v (ed E P m),.v (.bool neg),.v (ae X)] an n
theorem auy(E P m X:Int):MM E P m X false [true,true] 19=some (subst 19 4 (qj (wX (fW P X true))),some (.ghost 0 [wX (fW P X true),0+fE E P X]),(true,true)::Og E P X true (ack P X)):=by kernel_rfl
theorem auz(E P m X:Int):MM E P m X true [true,true] 21=some (subst 21 4 (qj (-wX (fW P X true))),some (.ghost 0 [-wX (fW P X true),0+fE E P X]),acm P X true (Og E P X true (ack P X))):=by kernel_rfl
theorem auA(E P m X:Int):MM E P m X false [false,true] 19=some (subst 19 4 (qj (wX (fW P X false))),some (.ghost 0 [wX (fW P X false),0+fE E P X]),(true,true)::Og E P X false (WQ P X false)):=by kernel_rfl
theorem auB(E P m X:Int):MM E P m X true [false,true] 21=some (subst 21 4 (qj (-wX (fW P X false))),some (.ghost 0 [-wX (fW P X false),0+fE E P X]),acm P X false (Og E P X false (WQ P X false))):=by kernel_rfl
def dQ(P X:Int):Int:=X/2^(P-1).toNat
def qw(P X:Int):Int:=if dQ P X>0 then X-(dQ P X-1)*2^(P-1).toNat else X
def lK(P X:Int):Int:=if dQ P X>0 then dQ P X-1 else 0
def ni(P X:Int):Int:=qw P X*2^(lK P X).toNat
def Fj(neg:Bool)(x:Int):Int:=if neg=true then-x else x
theorem Jg{E P X:Int}(h:aG E P)(h0:0≤X)(h1:X<aB E P):0≤dQ P X∧dQ P X≤2^E.toNat-2∧(2:Int)^E.toNat≤2048∧0≤qw P X∧qw P X<2*2^(P-1).toNat∧dQ P X*2^(P-1).toNat≤X:=by
 have hp:=au (P-1).toNat
 have hi:=Wx h
 have he:(2:Int)^E.toNat≤2048:=by
  obtain⟨f1,f2,_⟩:=h
  rcases(show E=2∨E=3∨E=4∨E=5∨E=6∨E=7∨E=8∨E=9∨E=10∨E=11 by omega)with rfl|rfl|rfl|rfl|rfl|rfl|rfl|rfl|rfl|rfl<;>decide
 have hf0:0≤dQ P X:=Int.ediv_nonneg h0 (Int.le_of_lt hp)
 have hdm:=Int.mul_ediv_add_emod X (2^(P-1).toNat)
 have hm0:=Int.emod_nonneg X (Int.ne_of_gt hp)
 have hm1:=Int.emod_lt_of_pos X hp
 have hf1:dQ P X<2^E.toNat-1:=Int.ediv_lt_of_lt_mul hp (by rw[←hi];exact h1)
 have hmul:2^(P-1).toNat*(X/2^(P-1).toNat)=dQ P X*2^(P-1).toNat:=Int.mul_comm _ _
 rw[hmul]at hdm
 refine⟨hf0,by omega,he,?_,?_,by omega⟩
 ·unfold qw
  split
  ·rw[Int.sub_mul];omega
  ·exact h0
 ·unfold qw
  split
  ·rw[Int.sub_mul];omega
  ·rename_i hz
   have:dQ P X=0:=by omega
   rw[this,Int.zero_mul]at hdm
   omega
theorem auC{P:Int}(h:P≤113):2*(2:Int)^(P-1).toNat≤2^124:=by
 obtain⟨d,hd⟩: ∃d:Nat,123=(P-1).toNat+d:=⟨123-(P-1).toNat,by omega⟩
 rw[show(124:Nat)=123+1 from rfl,Int.pow_succ,hd,Int.pow_add]
 have:=Int.mul_le_mul_of_nonneg_left (show(1:Int)≤2^d from au d) (Int.le_of_lt (au (P-1).toNat))
 omega
theorem acn{E P m X:Int}(neg:Bool)(h:aG E P)(h0:0≤X)(h1:X<aB E P):dU prog TR 185 [.v (ed E P m),.v (.bool neg),.v (ae X)] (lS (Fj neg (ni P X)) (az E P)):=by
 obtain⟨f0,f1,f2,d0,d1,fm⟩:=Jg h h0 h1
 have Wy:=dR h
 have hbr:=dN h.1 h.2.1
 have hp:=au (P-1).toNat
 have hp2:=auC h.2.2.2.1
 have hs:=WO
 have aiy:(2:Int)^124=21267647932558653966460912964485513216:=by decide
 obtain⟨e1,e2,e3,e4,e5⟩:=h
 have h:aG E P:=⟨e1,e2,e3,e4,e5⟩
 have wP:fP P=P-1:=nC (by omega)
 have wF:fF P X=dQ P X:=by
  unfold fF
  rw[wP,ag]
  show IntKind.i64.wrap (dQ P X%18446744073709551616)=dQ P X
  rw[Int.emod_eq_of_lt f0 (by omega),nC (by omega)]
 have bX:wB (ae X)=true:=dh h0 (by omega)
 have hE:fE E P X=az E P+lK P X:=by
  unfold fE
  rw[wF,nC (x:=dQ P X-1) (by omega)]
  have:(if 0>dQ P X-1 then 0 else dQ P X-1)=lK P X:=by unfold lK;split<;>split<;>omega
  rw[this]
  have hl:0≤lK P X∧lK P X≤2047:=by unfold lK;split<;>omega
  exact nC (by unfold az;omega)
 have hl:0≤lK P X∧lK P X≤2047:=by unfold lK;split<;>omega
 have hfr: -20000≤fE E P X∧fE E P X≤20000:=by rw[hE];unfold az;omega
 have g: ∀x,Ar.v x∈ [Ar.v (ed E P m),.v (.bool neg),.v (ae X)]→ground 9 x=true:=fun x hx=>by
  simp at hx;rcases hx with rfl|rfl|rfl<;>rfl
 have low: ∀K v w,jA w (lS K (0+fE E P X)) v→jA w (lS (K*2^(lK P X).toNat) (az E P)) v:=fun K v w hr=>by
  have:=acj (m:=az E P) (by omega) hr
  rwa [show 0+fE E P X-az E P=lK P X by omega]at this
 have fin: ∀(pos:Bool) (l:List (Bool×Bool)),fW P X pos=ae (qw P X)→(∀c∈l,c.1=c.2)→ ∀c∈Og E P X pos l,c.1=c.2:=by
  intro pos l hw hl
  unfold Og
  simp only[List.forall_mem_cons,hw,ag]
  refine⟨trivial,decide_eq_true ⟨⟨by omega,by omega,by omega,by omega⟩,hfr⟩,by simp,decide_eq_true h,?_,hl⟩
  rw[dh d0 (by rw[jm];omega),decide_eq_true (show qw P X<2^124 by omega)];rfl
 have fN: ∀(pos:Bool) (l:List (Bool×Bool)),(∀c∈l,c.1=c.2)→ ∀c∈acm P X pos l,c.1=c.2:=by
  intro pos l hl
  unfold acm
  simp only[List.forall_mem_cons]
  exact⟨trivial,trivial,by simp,hl⟩
 have f0s: ∀pos,decide (dQ P X>0)=pos→ ∀c∈WQ P X pos,c.1=c.2:=by
  intro pos hpos
  unfold WQ
  simp only[List.forall_mem_cons,wF,wP,bX]
  exact⟨hpos,by rw[decide_eq_true (show 0≤P-1∧P-1≤127 by omega)];rfl,trivial,trivial,fun c hc=>by cases hc⟩
 by_cases hpos:dQ P X>0
 ·have wG:fG P X=.agg #[.int .u64 0,.int .u64 (dQ P X-1)]:=by
   unfold fG
   rw[wF,nC (x:=dQ P X-1) (by omega),IntKind.wrap_u64,Int.emod_eq_of_lt (by omega) (by omega)]
  have xG:wX (fG P X)=dQ P X-1:=by
   rw[wG]
   show 0*18446744073709551616+(dQ P X-1)=dQ P X-1
   omega
  have bG:wB (fG P X)=true:=by rw[wG];exact decide_eq_true ⟨by omega,by omega,by omega,by omega⟩
  have hmul:(dQ P X-1)*2^(P-1).toNat=dQ P X*2^(P-1).toNat-2^(P-1).toNat:=by rw[Int.sub_mul];omega
  have am6:0≤(dQ P X-1)*2^(P-1).toNat:=Int.mul_nonneg (by omega) (Int.le_of_lt hp)
  have eL:fL P X=ae ((dQ P X-1)*2^(P-1).toNat):=by
   unfold fL
   rw[xG,wP,Int.emod_eq_of_lt am6 (by omega)]
  have eW:fW P X true=ae (qw P X):=by
   show ae ((wX (ae X)-wX (fL P X))%aW)=_
   rw[eL,ag,ag,Int.emod_eq_of_lt (by omega) (by omega)]
   unfold qw;rw[if_pos hpos]
  have c1: ∀c∈ack P X,c.1=c.2:=by
   unfold ack
   simp only[List.forall_mem_cons,wP]
   refine⟨trivial,?_,?_,trivial,f0s _ (decide_eq_true hpos)⟩
   ·rw[bX,eL,dh am6 (by omega)];rfl
   ·rw[bG,decide_eq_true (show 0≤P-1∧P-1≤127 by omega)];rfl
  cases neg
  ·have hrun:=auy E P m X
   have:=IM yP hrun (by simp only[List.forall_mem_cons];exact⟨trivial,fin _ _ eW c1⟩) (by simp) g
   rw[eW,ag]at this
   exact jO this fun w v hr=>low _ _ _ hr
  ·have hrun:=auz E P m X
   have:=IM yP hrun (fN _ _ (fin _ _ eW c1)) (by simp) g
   rw[eW,ag]at this
   refine jO this fun w v hr=>?_
   have:=low _ _ _ hr
   rw[Int.neg_mul]at this
   exact this
 ·have eW:fW P X false=ae (qw P X):=by
   show ae X=_
   unfold qw;rw[if_neg hpos]
  have c0:=f0s false (decide_eq_false hpos)
  cases neg
  ·have hrun:=auA E P m X
   have:=IM yP hrun (by simp only[List.forall_mem_cons];exact⟨trivial,fin _ _ eW c0⟩) (by simp) g
   rw[eW,ag]at this
   exact jO this fun w v hr=>low _ _ _ hr
  ·have hrun:=auB E P m X
   have:=IM yP hrun (fN _ _ (fin _ _ eW c0)) (by simp) g
   rw[eW,ag]at this
   refine jO this fun w v hr=>?_
   have:=low _ _ _ hr
   rw[Int.neg_mul]at this
   exact this
def ZN(xs:List Ar):Option bP:=match xs with
 |[.v a,.v (.bool s),.v b]=>match iw a with
  |some (E,P,_)=>some (lS (Fj s (ni P (wX b))) (az E P))
  |none=>none
 |_=>none
def ZO(xs:List Ar):Bool:=match xs with
 |[.v a,.v (.bool _),.v b]=>match iw a with
  |some (E,P,_)=>decide (aG E P)&&(wB b&&decide (wX b<aB E P))
  |none=>false
 |_=>false
def ZP:CF→St→Option (Value×St):=bF 185 (aZ TR ZO ZN)
theorem aco:aN prog ZP:=aP dH xP oh fun xs R h hp=>by
 unfold ZN at h
 split at h
 ·split at h
  ·rename_i hm
   injection h with h
   subst h
   unfold ZO at hp
   simp only[hm,Bool.and_eq_true]at hp
   rw[jw hm,AU hp.2.1,ag]
   exact acn _ (of_decide_eq_true hp.1) (jW hp.2.1).1 (of_decide_eq_true hp.2.2)
  ·cases h
 ·cases h
end Go.Proofs.YtnapiakfbihnjaaGreatDoor
