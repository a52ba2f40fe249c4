/-
  What a word of a number stands for.
-/
import Derived.Test.YtedhbbjlbgpafaaGreatDoorP22
set_option linter.unusedVariables false
set_option linter.unusedSimpArgs false
set_option maxRecDepth 1000000
namespace Go.Proofs.YtedhbbjlbgpafaaGreatDoor
open Go.RowKit Go.Shelf Go.Canon
theorem wB_eq{b:Value}(h:wB b=true):b=wordV (wX b):=by
 obtain⟨h1,l1,rfl,w1⟩:=wB_ok h
 exact wordV_of w1
theorem wX_range{b:Value}(h:wB b=true):0≤wX b∧wX b<two128:=by
 obtain⟨h1,l1,rfl,w1⟩:=wB_ok h
 exact w1.range
theorem con_imp{P:Program}{T:Tabs}{g:FuncId}{xs:List Ar}{R R':Res}(h:Con P T g xs R)(hi: ∀w v,ResIs w R v→ResIs w R' v):Con P T g xs R':=
 fun w hw he args' ha=>(h w hw he args' ha).mono fun e w1 ⟨v,h1,h2,h3⟩=>⟨v,h1,hi _ _ h2,h3⟩
theorem numT_lower(K:Int)(j:Nat):numT (K*2^j)=numT K:=by
 unfold numT
 have:decide (K*2^j<0)=decide (K<0):=by
  have hp:=p2pos j
  by_cases h:K<0
  ·have:=Int.mul_neg_of_neg_of_pos h hp
   simp[h,this]
  ·have:=Int.mul_nonneg (show 0≤K by omega) (Int.le_of_lt hp)
   rw[decide_eq_false h,decide_eq_false (by omega)]
 rw[this]
theorem is_lower{w:World}{K k:Int}{x:Array Value}(h:Ghosts.is w 0 [K,k] x)(m:Int)(hm:m≤k):Ghosts.is w 0 [K*2^(k-m).toNat,m] x:=is_dn.2 ((is_dn.1 h).lower m hm)
theorem resN_lower{w:World}{K k m:Int}{v:Value}(hm:m≤k)(h:ResIs w (resN K k) v):ResIs w (resN (K*2^(k-m).toNat) m) v:=by
 obtain⟨x,h1,h2⟩:=h
 refine⟨x,is_lower h1 m hm,fun ρ n hn=>?_⟩
 show VRel ρ (subst n 4 (numT (K*2^(k-m).toNat))) v
 rw[numT_lower]
 exact h2 ρ n hn
theorem con_num{call:CF→St→Option (Value×St)}(hcall:RunOkE Tryz.prog call){g:Nat}{xs:List Ar}{an:List Bool}{n:Nat}{K k:Int}{cs:List (Bool×Bool)}
 (h:conRun Tryz.prog TR call 1000 g xs an n=some (subst n 4 (numT K),some (.ghost 0 [K,k]),cs)) (hcs: ∀c∈cs,c.1=c.2) (hlen:xs.length<2^38) (hgr: ∀x,Ar.v x∈xs→ground 9 x=true):Con Tryz.prog TR g xs (resN K k):=
 con_sym hcall h hcs hlen hgr ⟨rfl,rfl,rfl⟩
def finiteC:CF→St→Option (Value×St):=orElse rightO (orElse leftO (orElse minusO (orElse toNumO (orElse finestO (orElse shiftedO negO)))))
theorem finiteC_ok:RunOkE Tryz.prog finiteC:=orElse_ok rightO_ok (orElse_ok leftO_ok (orElse_ok minusO_ok (orElse_ok toNumO_ok (orElse_ok finestO_ok (orElse_ok shiftedO_ok negO_ok)))))
def fP(P:Int):Int:=IntKind.i64.wrap (P-1)
def fF(P X:Int):Int:=IntKind.i64.wrap (wX (wordV X)/2^(fP P).toNat%18446744073709551616)
def fG(P X:Int):Value:=.agg #[.int .u64 0,.int .u64 (IntKind.u64.wrap (IntKind.i64.wrap (fF P X-1)))]
def fL(P X:Int):Value:=wordV (wX (fG P X)*2^(fP P).toNat%two128)
def fW(P X:Int)(pos:Bool):Value:=match pos with
 |true=>wordV ((wX (wordV X)-wX (fL P X))%two128)
 |false=>wordV X
def fE(E P X:Int):Int:=IntKind.i64.wrap (fineOf E P+(if 0>IntKind.i64.wrap (fF P X-1)then 0 else IntKind.i64.wrap (fF P X-1)))
def fcs0(P X:Int)(pos:Bool):List (Bool×Bool):=[(decide (fF P X>0),pos),(wB (wordV X)&&decide (0≤fP P∧fP P≤127),true),(true,true),(true,true)]
def fcs1(P X:Int):List (Bool×Bool):=(true,true)::(wB (wordV X)&&wB (fL P X),true)::(wB (fG P X)&&decide (0≤fP P∧fP P≤127),true)::(true,true)::fcs0 P X true
def fcs2(E P X:Int)(pos:Bool)(l:List (Bool×Bool)):List (Bool×Bool):=
 (true,true)::(decide (inB (wX (fW P X pos)) 0∧ -20000≤fE E P X∧fE E P X≤20000),true)::(decide (wX (fW P X pos)<0)==decide (wX (fW P X pos)<0),true)::(decide (Fmt E P),true)::
  (wB (fW P X pos)&&decide (wX (fW P X pos)<2^124),true)::l
def fcsN(P X:Int)(pos:Bool)(l:List (Bool×Bool)):List (Bool×Bool):=(true,true)::(true,true)::(decide (wX (fW P X pos)<0)==decide (wX (fW P X pos)<0),true)::l
noncomputable def finRun(E P m X:Int)(neg:Bool)(an:List Bool)(n:Nat):Option (Value×Option CObj×List (Bool×Bool)):=conRun Tryz.prog TR finiteC 1000 212 [.v (machV E P m),.v (.bool neg),.v (wordV X)] an n
theorem fin_ft(E P m X:Int):finRun E P m X false [true,true] 19=some (subst 19 4 (numT (wX (fW P X true))),some (.ghost 0 [wX (fW P X true),0+fE E P X]),(true,true)::fcs2 E P X true (fcs1 P X)):=by kernel_rfl
theorem fin_tt(E P m X:Int):finRun E P m X true [true,true] 21=some (subst 21 4 (numT (-wX (fW P X true))),some (.ghost 0 [-wX (fW P X true),0+fE E P X]),fcsN P X true (fcs2 E P X true (fcs1 P X))):=by kernel_rfl
theorem fin_ff(E P m X:Int):finRun E P m X false [false,true] 19=some (subst 19 4 (numT (wX (fW P X false))),some (.ghost 0 [wX (fW P X false),0+fE E P X]),(true,true)::fcs2 E P X false (fcs0 P X false)):=by kernel_rfl
theorem fin_tf(E P m X:Int):finRun E P m X true [false,true] 21=some (subst 21 4 (numT (-wX (fW P X false))),some (.ghost 0 [-wX (fW P X false),0+fE E P X]),fcsN P X false (fcs2 E P X false (fcs0 P X false))):=by kernel_rfl
def fieldOf(P X:Int):Int:=X/2^(P-1).toNat
def digOf(P X:Int):Int:=if fieldOf P X>0 then X-(fieldOf P X-1)*2^(P-1).toNat else X
def liftOf(P X:Int):Int:=if fieldOf P X>0 then fieldOf P X-1 else 0
def magOf(P X:Int):Int:=digOf P X*2^(liftOf P X).toNat
def sgM(neg:Bool)(x:Int):Int:=if neg=true then-x else x
theorem field_facts{E P X:Int}(h:Fmt E P)(h0:0≤X)(h1:X<infOf E P):0≤fieldOf P X∧fieldOf P X≤2^E.toNat-2∧(2:Int)^E.toNat≤2048∧0≤digOf P X∧digOf P X<2*2^(P-1).toNat∧fieldOf P X*2^(P-1).toNat≤X:=by
 have hp:=p2pos (P-1).toNat
 have hi:=inf_eq h
 have he:(2:Int)^E.toNat≤2048:=by
  obtain⟨f1,f2,_⟩:=h
  rcases(show E=2∨E=3∨E=4∨E=5∨E=6∨E=7∨E=8∨E=9∨E=10∨E=11 by omega)with rfl|rfl|rfl|rfl|rfl|rfl|rfl|rfl|rfl|rfl<;>decide
 have hf0:0≤fieldOf P X:=Int.ediv_nonneg h0 (Int.le_of_lt hp)
 have hdm:=Int.mul_ediv_add_emod X (2^(P-1).toNat)
 have hm0:=Int.emod_nonneg X (Int.ne_of_gt hp)
 have hm1:=Int.emod_lt_of_pos X hp
 have hf1:fieldOf P X<2^E.toNat-1:=Int.ediv_lt_of_lt_mul hp (by rw[←hi];exact h1)
 have hmul:2^(P-1).toNat*(X/2^(P-1).toNat)=fieldOf P X*2^(P-1).toNat:=Int.mul_comm _ _
 rw[hmul]at hdm
 refine⟨hf0,by omega,he,?_,?_,by omega⟩
 ·unfold digOf
  split
  ·rw[Int.sub_mul];omega
  ·exact h0
 ·unfold digOf
  split
  ·rw[Int.sub_mul];omega
  ·rename_i hz
   have:fieldOf P X=0:=by omega
   rw[this,Int.zero_mul]at hdm
   omega
theorem p_le{P:Int}(h:P≤113):2*(2:Int)^(P-1).toNat≤2^124:=by
 obtain⟨d,hd⟩: ∃d:Nat,123=(P-1).toNat+d:=⟨123-(P-1).toNat,by omega⟩
 rw[show(124:Nat)=123+1 from rfl,Int.pow_succ,hd,Int.pow_add]
 have:=Int.mul_le_mul_of_nonneg_left (show(1:Int)≤2^d from p2pos d) (Int.le_of_lt (p2pos (P-1).toNat))
 omega
theorem finite_con{E P m X:Int}(neg:Bool)(h:Fmt E P)(h0:0≤X)(h1:X<infOf E P):Con Tryz.prog TR 212 [.v (machV E P m),.v (.bool neg),.v (wordV X)] (resN (sgM neg (magOf P X)) (fineOf E P)):=by
 obtain⟨f0,f1,f2,d0,d1,fm⟩:=field_facts h h0 h1
 have hinf:=inf_range h
 have hbr:=bias_range h.1 h.2.1
 have hp:=p2pos (P-1).toNat
 have hp2:=p_le h.2.2.2.1
 have hs:=p124_sml
 have p124:(2:Int)^124=21267647932558653966460912964485513216:=by decide
 obtain⟨e1,e2,e3,e4,e5⟩:=h
 have h:Fmt E P:=⟨e1,e2,e3,e4,e5⟩
 have wP:fP P=P-1:=wrapI (by omega)
 have wF:fF P X=fieldOf P X:=by
  unfold fF
  rw[wP,wX_wordV]
  show IntKind.i64.wrap (fieldOf P X%18446744073709551616)=fieldOf P X
  rw[Int.emod_eq_of_lt f0 (by omega),wrapI (by omega)]
 have bX:wB (wordV X)=true:=wB_wordV h0 (by omega)
 have hE:fE E P X=fineOf E P+liftOf P X:=by
  unfold fE
  rw[wF,wrapI (x:=fieldOf P X-1) (by omega)]
  have:(if 0>fieldOf P X-1 then 0 else fieldOf P X-1)=liftOf P X:=by unfold liftOf;split<;>split<;>omega
  rw[this]
  have hl:0≤liftOf P X∧liftOf P X≤2047:=by unfold liftOf;split<;>omega
  exact wrapI (by unfold fineOf;omega)
 have hl:0≤liftOf P X∧liftOf P X≤2047:=by unfold liftOf;split<;>omega
 have hfr: -20000≤fE E P X∧fE E P X≤20000:=by rw[hE];unfold fineOf;omega
 have g: ∀x,Ar.v x∈ [Ar.v (machV E P m),.v (.bool neg),.v (wordV X)]→ground 9 x=true:=fun x hx=>by
  simp at hx;rcases hx with rfl|rfl|rfl<;>rfl
 have low: ∀K v w,ResIs w (resN K (0+fE E P X)) v→ResIs w (resN (K*2^(liftOf P X).toNat) (fineOf E P)) v:=fun K v w hr=>by
  have:=resN_lower (m:=fineOf E P) (by omega) hr
  rwa [show 0+fE E P X-fineOf E P=liftOf P X by omega]at this
 have fin: ∀(pos:Bool) (l:List (Bool×Bool)),fW P X pos=wordV (digOf P X)→(∀c∈l,c.1=c.2)→ ∀c∈fcs2 E P X pos l,c.1=c.2:=by
  intro pos l hw hl
  unfold fcs2
  simp only[List.forall_mem_cons,hw,wX_wordV]
  refine⟨trivial,decide_eq_true ⟨⟨by omega,by omega,by omega,by omega⟩,hfr⟩,by simp,decide_eq_true h,?_,hl⟩
  rw[wB_wordV d0 (by rw[two128_eq];omega),decide_eq_true (show digOf P X<2^124 by omega)];rfl
 have fN: ∀(pos:Bool) (l:List (Bool×Bool)),(∀c∈l,c.1=c.2)→ ∀c∈fcsN P X pos l,c.1=c.2:=by
  intro pos l hl
  unfold fcsN
  simp only[List.forall_mem_cons]
  exact⟨trivial,trivial,by simp,hl⟩
 have f0s: ∀pos,decide (fieldOf P X>0)=pos→ ∀c∈fcs0 P X pos,c.1=c.2:=by
  intro pos hpos
  unfold fcs0
  simp only[List.forall_mem_cons,wF,wP,bX]
  exact⟨hpos,by rw[decide_eq_true (show 0≤P-1∧P-1≤127 by omega)];rfl,trivial,trivial,fun c hc=>by cases hc⟩
 by_cases hpos:fieldOf P X>0
 ·have wG:fG P X=.agg #[.int .u64 0,.int .u64 (fieldOf P X-1)]:=by
   unfold fG
   rw[wF,wrapI (x:=fieldOf P X-1) (by omega),IntKind.wrap_u64,Int.emod_eq_of_lt (by omega) (by omega)]
  have xG:wX (fG P X)=fieldOf P X-1:=by
   rw[wG]
   show 0*18446744073709551616+(fieldOf P X-1)=fieldOf P X-1
   omega
  have bG:wB (fG P X)=true:=by rw[wG];exact decide_eq_true ⟨by omega,by omega,by omega,by omega⟩
  have hmul:(fieldOf P X-1)*2^(P-1).toNat=fieldOf P X*2^(P-1).toNat-2^(P-1).toNat:=by rw[Int.sub_mul];omega
  have hmul0:0≤(fieldOf P X-1)*2^(P-1).toNat:=Int.mul_nonneg (by omega) (Int.le_of_lt hp)
  have eL:fL P X=wordV ((fieldOf P X-1)*2^(P-1).toNat):=by
   unfold fL
   rw[xG,wP,Int.emod_eq_of_lt hmul0 (by omega)]
  have eW:fW P X true=wordV (digOf P X):=by
   show wordV ((wX (wordV X)-wX (fL P X))%two128)=_
   rw[eL,wX_wordV,wX_wordV,Int.emod_eq_of_lt (by omega) (by omega)]
   unfold digOf;rw[if_pos hpos]
  have c1: ∀c∈fcs1 P X,c.1=c.2:=by
   unfold fcs1
   simp only[List.forall_mem_cons,wP]
   refine⟨trivial,?_,?_,trivial,f0s _ (decide_eq_true hpos)⟩
   ·rw[bX,eL,wB_wordV hmul0 (by omega)];rfl
   ·rw[bG,decide_eq_true (show 0≤P-1∧P-1≤127 by omega)];rfl
  cases neg
  ·have hrun:=fin_ft E P m X
   have:=con_num finiteC_ok hrun (by simp only[List.forall_mem_cons];exact⟨trivial,fin _ _ eW c1⟩) (by simp) g
   rw[eW,wX_wordV]at this
   exact con_imp this fun w v hr=>low _ _ _ hr
  ·have hrun:=fin_tt E P m X
   have:=con_num finiteC_ok hrun (fN _ _ (fin _ _ eW c1)) (by simp) g
   rw[eW,wX_wordV]at this
   refine con_imp this fun w v hr=>?_
   have:=low _ _ _ hr
   rw[Int.neg_mul]at this
   exact this
 ·have eW:fW P X false=wordV (digOf P X):=by
   show wordV X=_
   unfold digOf;rw[if_neg hpos]
  have c0:=f0s false (decide_eq_false hpos)
  cases neg
  ·have hrun:=fin_ff E P m X
   have:=con_num finiteC_ok hrun (by simp only[List.forall_mem_cons];exact⟨trivial,fin _ _ eW c0⟩) (by simp) g
   rw[eW,wX_wordV]at this
   exact con_imp this fun w v hr=>low _ _ _ hr
  ·have hrun:=fin_tf E P m X
   have:=con_num finiteC_ok hrun (fN _ _ (fin _ _ eW c0)) (by simp) g
   rw[eW,wX_wordV]at this
   refine con_imp this fun w v hr=>?_
   have:=low _ _ _ hr
   rw[Int.neg_mul]at this
   exact this
def finiteS(xs:List Ar):Option Res:=match xs with
 |[.v a,.v (.bool s),.v b]=>match mach3 a with
  |some (E,P,_)=>some (resN (sgM s (magOf P (wX b))) (fineOf E P))
  |none=>none
 |_=>none
def finiteP(xs:List Ar):Bool:=match xs with
 |[.v a,.v (.bool _),.v b]=>match mach3 a with
  |some (E,P,_)=>decide (Fmt E P)&&(wB b&&decide (wX b<infOf E P))
  |none=>false
 |_=>false
def finiteO:CF→St→Option (Value×St):=oracle 212 (conSpec TR finiteP finiteS)
theorem finiteO_ok:RunOkE Tryz.prog finiteO:=con_oracle numG gTR roTR2 fun xs R h hp=>by
 unfold finiteS at h
 split at h
 ·split at h
  ·rename_i hm
   injection h with h
   subst h
   unfold finiteP at hp
   simp only[hm,Bool.and_eq_true]at hp
   rw[mach3_ok hm,wB_eq hp.2.1,wX_wordV]
   exact finite_con _ (of_decide_eq_true hp.1) (wX_range hp.2.1).1 (of_decide_eq_true hp.2.2)
  ·cases h
 ·cases h
end Go.Proofs.YtedhbbjlbgpafaaGreatDoor
