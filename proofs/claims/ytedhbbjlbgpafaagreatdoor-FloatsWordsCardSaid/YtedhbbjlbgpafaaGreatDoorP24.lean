/-
  What a word stands for.
-/
import Derived.Test.YtedhbbjlbgpafaaGreatDoorP23
set_option linter.unusedVariables false
set_option linter.unusedSimpArgs false
set_option maxRecDepth 1000000
namespace Go.Proofs.YtedhbbjlbgpafaaGreatDoor
open Go.RowKit Go.Shelf Go.Canon
def decodeC:CF→St→Option (Value×St):=orElse unsignedO (orElse infinityO (orElse quietO (orElse lessO (orElse finiteO (orElse minusO toNumO)))))
theorem decodeC_ok:RunOkE Tryz.prog decodeC:=orElse_ok unsignedO_ok (orElse_ok infinityO_ok (orElse_ok quietO_ok (orElse_ok lessO_ok (orElse_ok finiteO_ok (orElse_ok minusO_ok toNumO_ok)))))
def opT(kind:Int)(neg:Bool)(K:Int):Value:=.agg #[.int .i64 kind,.bool neg,.bool (decide (K<0)),.complex .f64 0 1,.complex .f64 0 2,.complex .f64 0 3]
def opZ(kind:Int)(neg:Bool):Value:=.agg #[.int .i64 kind,.bool neg,.bool false,.slice none 0 0,.slice none 0 0,.int .i64 0]
def dS(E P X:Int):Int:=sizeOf' E P (wX (wordV X))
def eqW(X Y:Int):Bool:=decide (X/18446744073709551616=Y/18446744073709551616∧X%18446744073709551616=Y%18446744073709551616)
def dcs0(E P X:Int)(neg z:Bool):List (Bool×Bool):=[(decide (dS E P X/18446744073709551616=0∧dS E P X%18446744073709551616=0),z),(true,true),(true,true),(decide (Fmt E P),true),(decide (Fmt E P),true),(true,true),(decide (signOf E P≤wX (wordV X)),neg),(decide (Fmt E P)&&wB (wordV X),true)]
def dcs1(E P X:Int)(neg i:Bool):List (Bool×Bool):=(eqW (dS E P X) (infOf E P),i)::dcs0 E P X neg false
def dcs2(E P X:Int)(neg f:Bool):List (Bool×Bool):=(decide (wX (wordV (dS E P X))<wX (wordV (infOf E P))),f)::(wB (wordV (dS E P X))&&wB (wordV (infOf E P)),true)::dcs1 E P X neg false
def dcs3(E P X:Int)(neg q:Bool):List (Bool×Bool):=(decide (wX (wordV (dS E P X))<wX (wordV (quietOf E P))),q)::(wB (wordV (dS E P X))&&wB (wordV (quietOf E P)),true)::dcs2 E P X neg false
def payW(E P X B:Int):Value:=wordV ((wX (wordV (dS E P X))-wX (wordV B))%two128)
def dcs4(E P X B:Int)(l:List (Bool×Bool)):List (Bool×Bool):=(true,true)::(wB (payW E P X B)&&decide (wX (payW E P X B)<2^124),true)::(wB (wordV (dS E P X))&&wB (wordV B),true)::l
def dcs5(E P X:Int)(neg:Bool):List (Bool×Bool):=(true,true)::(decide (Fmt E P)&&(wB (wordV (dS E P X))&&decide (wX (wordV (dS E P X))<infOf E P)),true)::dcs2 E P X neg true
noncomputable def decRun(E P m X:Int)(an:List Bool)(n:Nat):Option (Value×Option CObj×List (Bool×Bool)):=conRun Tryz.prog TR decodeC 1000 144 [.v (machV E P m),.v (wordV X)] an n
theorem dec_t_z(E P m X:Int):decRun E P m X [true,true,true] 2=some (opZ 1 true,some (.fact 0),(true,true)::dcs0 E P X true true):=by kernel_rfl
theorem dec_t_i(E P m X:Int):decRun E P m X [true,false,true,true] 2=some (opZ 3 true,some (.fact 0),(true,true)::dcs1 E P X true true):=by kernel_rfl
theorem dec_t_f(E P m X:Int):decRun E P m X [true,false,false,true,true] 19=some (subst 19 4 (opT 2 true (sgM true (magOf P (wX (wordV (dS E P X)))))),some (.ghost 0 [sgM true (magOf P (wX (wordV (dS E P X)))),fineOf E P]),dcs5 E P X true):=by kernel_rfl
theorem dec_t_s(E P m X:Int):decRun E P m X [true,false,false,false,true,true] 19=some (subst 19 4 (opT 5 true (wX (payW E P X (infOf E P)))),some (.ghost 0 [wX (payW E P X (infOf E P)),0]),dcs4 E P X (infOf E P) (dcs3 E P X true true)):=by kernel_rfl
theorem dec_t_q(E P m X:Int):decRun E P m X [true,false,false,false,false,true] 19=some (subst 19 4 (opT 4 true (wX (payW E P X (quietOf E P)))),some (.ghost 0 [wX (payW E P X (quietOf E P)),0]),dcs4 E P X (quietOf E P) (dcs3 E P X true false)):=by kernel_rfl
theorem dec_f_z(E P m X:Int):decRun E P m X [false,true,true] 2=some (opZ 1 false,some (.fact 0),(true,true)::dcs0 E P X false true):=by kernel_rfl
theorem dec_f_i(E P m X:Int):decRun E P m X [false,false,true,true] 2=some (opZ 3 false,some (.fact 0),(true,true)::dcs1 E P X false true):=by kernel_rfl
theorem dec_f_f(E P m X:Int):decRun E P m X [false,false,false,true,true] 19=some (subst 19 4 (opT 2 false (sgM false (magOf P (wX (wordV (dS E P X)))))),some (.ghost 0 [sgM false (magOf P (wX (wordV (dS E P X)))),fineOf E P]),dcs5 E P X false):=by kernel_rfl
theorem dec_f_s(E P m X:Int):decRun E P m X [false,false,false,false,true,true] 19=some (subst 19 4 (opT 5 false (wX (payW E P X (infOf E P)))),some (.ghost 0 [wX (payW E P X (infOf E P)),0]),dcs4 E P X (infOf E P) (dcs3 E P X false true)):=by kernel_rfl
theorem dec_f_q(E P m X:Int):decRun E P m X [false,false,false,false,false,true] 19=some (subst 19 4 (opT 4 false (wX (payW E P X (quietOf E P)))),some (.ghost 0 [wX (payW E P X (quietOf E P)),0]),dcs4 E P X (quietOf E P) (dcs3 E P X false false)):=by kernel_rfl
def sizW(E P X:Int):Int:=sizeOf' E P X
def kindOf(E P X:Int):Int:=if sizW E P X=0 then 1 else if sizW E P X=infOf E P then 3 else if sizW E P X<infOf E P then 2 else if sizW E P X<quietOf E P then 5 else 4
def negOf(E P X:Int):Bool:=decide (signOf E P≤X)
def opK(E P X:Int):Int:=
 if kindOf E P X=2 then sgM (negOf E P X) (magOf P (sizW E P X))else if kindOf E P X=5 then(sizW E P X-infOf E P)*2^(0-fineOf E P).toNat else if kindOf E P X=4 then(sizW E P X-quietOf E P)*2^(0-fineOf E P).toNat else 0
def opR(kind:Int)(neg:Bool)(K k:Int):Res:=⟨some (.d K k),opT kind neg K⟩
theorem is_zero(w:World)(k:Int):Ghosts.is w 0 [0,k] zeroA:=is_dn.2 ⟨false,0,0,⟨none,0,0,none,0,0,rfl,.zero w,.inl ⟨rfl,rfl⟩⟩,.inl ⟨rfl,rfl,rfl,rfl⟩⟩
theorem opZ_is{w:World}{v:Value}{kind k:Int}{neg:Bool}(h:ResIs w ⟨none,opZ kind neg⟩ v):ResIs w (opR kind neg 0 k) v:=by
 have e:v=opZ kind neg:=h
 subst e
 refine⟨zeroA,is_zero w k,fun ρ n hn=>?_⟩
 exact VRel.agg_of (LRel.arel (l:=[_,_,_,_,_,_]) (l':=[_,_,_,_,_,_]) ⟨.int _ _,.bool _,.bool _,.tok _ 1 _ _ hn rfl rfl,.tok _ 2 _ _ hn rfl rfl,.tok _ 3 _ _ hn rfl rfl,trivial⟩)
theorem opT_lower(kind:Int)(neg:Bool)(K:Int)(j:Nat):opT kind neg (K*2^j)=opT kind neg K:=by
 have:=numT_lower K j
 unfold numT at this
 injection this with this
 have e:decide (K*2^j<0)=decide (K<0):=by
  have:=congrArg (fun x:Array Value=>x[0]?) this
  simpa using this
 unfold opT;rw[e]
theorem opR_lower{w:World}{kind K k m:Int}{neg:Bool}{v:Value}(hm:m≤k)(h:ResIs w (opR kind neg K k) v):ResIs w (opR kind neg (K*2^(k-m).toNat) m) v:=by
 obtain⟨x,h1,h2⟩:=h
 refine⟨x,is_lower h1 m hm,fun ρ n hn=>?_⟩
 show VRel ρ (subst n 4 (opT kind neg (K*2^(k-m).toNat))) v
 rw[opT_lower]
 exact h2 ρ n hn
theorem con_op{call:CF→St→Option (Value×St)}(hcall:RunOkE Tryz.prog call){g:Nat}{xs:List Ar}{an:List Bool}{n:Nat}{kind K k:Int}{neg:Bool}{cs:List (Bool×Bool)}
 (h:conRun Tryz.prog TR call 1000 g xs an n=some (subst n 4 (opT kind neg K),some (.ghost 0 [K,k]),cs)) (hcs: ∀c∈cs,c.1=c.2) (hlen:xs.length<2^38) (hgr: ∀x,Ar.v x∈xs→ground 9 x=true):Con Tryz.prog TR g xs (opR kind neg K k):=
 con_sym hcall h hcs hlen hgr ⟨rfl,rfl,rfl⟩
theorem eqW_iff{X Y:Int}:eqW X Y=decide (X=Y):=by
 unfold eqW
 congr 1
 apply propext
 constructor
 ·intro⟨h1,h2⟩;omega
 ·rintro rfl;exact⟨rfl,rfl⟩
theorem fine_le{E P:Int}(h:Fmt E P):fineOf E P≤0:=by
 have:=bias_range h.1 h.2.1
 have:=h.2.2.1
 unfold fineOf;omega
theorem decode_con{E P m X:Int}(h:Fmt E P)(h0:0≤X)(h1:X<2*signOf E P):Con Tryz.prog TR 144 [.v (machV E P m),.v (wordV X)] (opR (kindOf E P X) (negOf E P X) (opK E P X) (fineOf E P)):=by
 have hinf:=inf_range h
 have hq:=quiet_range h
 have hsg:=sign_range h
 have hfl:=fine_le h
 have bX:wB (wordV X)=true:=wB_wordV h0 (by omega)
 have eS:dS E P X=sizW E P X:=by unfold dS;rw[wX_wordV];rfl
 have s0:0≤sizW E P X∧sizW E P X<signOf E P:=by unfold sizW sizeOf';split<;>omega
 have hS2:signOf E P=2^(E+P-1).toNat:=rfl
 have bS:wB (wordV (sizW E P X))=true:=wB_wordV s0.1 (by omega)
 have bI:wB (wordV (infOf E P))=true:=wB_wordV (by omega) (by omega)
 have bQ:wB (wordV (quietOf E P))=true:=wB_wordV (by omega) (by omega)
 have g: ∀x,Ar.v x∈ [Ar.v (machV E P m),.v (wordV X)]→ground 9 x=true:=fun x hx=>by
  simp at hx;rcases hx with rfl|rfl<;>rfl
 have p124:(2:Int)^124=21267647932558653966460912964485513216:=by decide
 have hpay:quietOf E P-infOf E P≤2^124∧signOf E P-quietOf E P≤2^124:=by
  have hp2:=p_le h.2.2.2.1
  have e1:signOf E P-infOf E P=2^(P-1).toNat:=by unfold signOf infOf;omega
  omega
 have z0: ∀neg z,decide (signOf E P≤X)=neg→decide (sizW E P X=0)=z→ ∀c∈dcs0 E P X neg z,c.1=c.2:=by
  intro neg z e1 e2
  have e3:decide (sizW E P X/18446744073709551616=0∧sizW E P X%18446744073709551616=0)=decide (sizW E P X=0):=by
   congr 1;apply propext;omega
  unfold dcs0
  simp only[List.forall_mem_cons,eS,wX_wordV]
  exact⟨e3.trans e2,trivial,trivial,decide_eq_true h,decide_eq_true h,trivial,e1,by simp[h,bX],fun c hc=>by cases hc⟩
 have z1: ∀neg i,decide (signOf E P≤X)=neg→decide (sizW E P X=0)=false→decide (sizW E P X=infOf E P)=i→ ∀c∈dcs1 E P X neg i,c.1=c.2:=by
  intro neg i e1 e2 e3
  unfold dcs1
  simp only[List.forall_mem_cons,eS,eqW_iff]
  exact⟨e3,z0 _ _ e1 e2⟩
 have z2: ∀neg f,decide (signOf E P≤X)=neg→decide (sizW E P X=0)=false→decide (sizW E P X=infOf E P)=false→decide (sizW E P X<infOf E P)=f→ ∀c∈dcs2 E P X neg f,c.1=c.2:=by
  intro neg f e1 e2 e3 e4
  unfold dcs2
  simp only[List.forall_mem_cons,eS,wX_wordV]
  exact⟨e4,by rw[bS,bI];rfl,z1 _ _ e1 e2 e3⟩
 have z3: ∀neg q,decide (signOf E P≤X)=neg→decide (sizW E P X=0)=false→decide (sizW E P X=infOf E P)=false→decide (sizW E P X<infOf E P)=false→decide (sizW E P X<quietOf E P)=q→ ∀c∈dcs3 E P X neg q,c.1=c.2:=by
  intro neg q e1 e2 e3 e4 e5
  unfold dcs3
  simp only[List.forall_mem_cons,eS,wX_wordV]
  exact⟨e5,by rw[bS,bQ];rfl,z2 _ _ e1 e2 e3 e4⟩
 have pay: ∀B,0≤B→B≤sizW E P X→payW E P X B=wordV (sizW E P X-B):=by
  intro B hB hB2
  unfold payW
  rw[eS,wX_wordV,wX_wordV,Int.emod_eq_of_lt (by omega) (by omega)]
 have z4: ∀B l,0≤B→B≤sizW E P X→wB (wordV B)=true→sizW E P X-B<2^124→(∀c∈l,c.1=c.2)→ ∀c∈dcs4 E P X B l,c.1=c.2:=by
  intro B l hB hB2 hB3 hB4 hl
  unfold dcs4
  rw[pay B hB hB2]
  simp only[List.forall_mem_cons,eS,wX_wordV]
  refine⟨trivial,?_,by rw[bS,hB3];rfl,hl⟩
  rw[wB_wordV (by omega) (by omega),decide_eq_true hB4];rfl
 have lowK: ∀K kind neg v w,ResIs w (opR kind neg K 0) v→ResIs w (opR kind neg (K*2^(0-fineOf E P).toNat) (fineOf E P)) v:=fun K kind neg v w hr=>opR_lower hfl hr
 cases hn:decide (signOf E P≤X)
 ·have hneg:negOf E P X=false:=hn
  rw[hneg]
  by_cases c1:sizW E P X=0
  ·have hk:kindOf E P X=1:=by unfold kindOf;rw[if_pos c1]
   have hK:opK E P X=0:=by unfold opK;rw[hk];rfl
   rw[hk,hK]
   refine con_imp (con_plain decodeC_ok (dec_f_z E P m X) (by simp only[List.forall_mem_cons];exact⟨trivial,z0 _ _ hn (decide_eq_true c1)⟩) (by simp) g rfl rfl) fun w v hr=>opZ_is hr
  by_cases c2:sizW E P X=infOf E P
  ·have hk:kindOf E P X=3:=by unfold kindOf;rw[if_neg c1,if_pos c2]
   have hK:opK E P X=0:=by unfold opK;rw[hk];rfl
   rw[hk,hK]
   refine con_imp (con_plain decodeC_ok (dec_f_i E P m X) (by simp only[List.forall_mem_cons];exact⟨trivial,z1 _ _ hn (decide_eq_false c1) (decide_eq_true c2)⟩) (by simp) g rfl rfl) fun w v hr=>opZ_is hr
  by_cases c3:sizW E P X<infOf E P
  ·have hk:kindOf E P X=2:=by unfold kindOf;rw[if_neg c1,if_neg c2,if_pos c3]
   have hK:opK E P X=sgM false (magOf P (sizW E P X)):=by unfold opK;rw[hk,hneg];rfl
   rw[hk,hK]
   have hrun:=dec_f_f E P m X
   rw[eS,wX_wordV]at hrun
   refine con_op decodeC_ok hrun ?_ (by simp) g
   unfold dcs5
   simp only[List.forall_mem_cons,eS,wX_wordV]
   exact⟨trivial,by simp[h,bS,c3],z2 _ _ hn (decide_eq_false c1) (decide_eq_false c2) (decide_eq_true c3)⟩
  by_cases c4:sizW E P X<quietOf E P
  ·have hk:kindOf E P X=5:=by unfold kindOf;rw[if_neg c1,if_neg c2,if_neg c3,if_pos c4]
   have hK:opK E P X=(sizW E P X-infOf E P)*2^(0-fineOf E P).toNat:=by unfold opK;rw[hk];rfl
   rw[hk,hK]
   have hrun:=dec_f_s E P m X
   rw[pay _ (by omega) (by omega),wX_wordV]at hrun
   exact con_imp (con_op decodeC_ok hrun (z4 _ _ (by omega) (by omega) bI (by omega) (z3 _ _ hn (decide_eq_false c1) (decide_eq_false c2) (decide_eq_false c3) (decide_eq_true c4))) (by simp) g) fun w v hr=>lowK _ _ _ _ _ hr
  ·have hk:kindOf E P X=4:=by unfold kindOf;rw[if_neg c1,if_neg c2,if_neg c3,if_neg c4]
   have hK:opK E P X=(sizW E P X-quietOf E P)*2^(0-fineOf E P).toNat:=by unfold opK;rw[hk];rfl
   rw[hk,hK]
   have hrun:=dec_f_q E P m X
   rw[pay _ (by omega) (by omega),wX_wordV]at hrun
   exact con_imp (con_op decodeC_ok hrun (z4 _ _ (by omega) (by omega) bQ (by omega) (z3 _ _ hn (decide_eq_false c1) (decide_eq_false c2) (decide_eq_false c3) (decide_eq_false c4))) (by simp) g) fun w v hr=>lowK _ _ _ _ _ hr
 ·have hneg:negOf E P X=true:=hn
  rw[hneg]
  by_cases c1:sizW E P X=0
  ·have hk:kindOf E P X=1:=by unfold kindOf;rw[if_pos c1]
   have hK:opK E P X=0:=by unfold opK;rw[hk];rfl
   rw[hk,hK]
   refine con_imp (con_plain decodeC_ok (dec_t_z E P m X) (by simp only[List.forall_mem_cons];exact⟨trivial,z0 _ _ hn (decide_eq_true c1)⟩) (by simp) g rfl rfl) fun w v hr=>opZ_is hr
  by_cases c2:sizW E P X=infOf E P
  ·have hk:kindOf E P X=3:=by unfold kindOf;rw[if_neg c1,if_pos c2]
   have hK:opK E P X=0:=by unfold opK;rw[hk];rfl
   rw[hk,hK]
   refine con_imp (con_plain decodeC_ok (dec_t_i E P m X) (by simp only[List.forall_mem_cons];exact⟨trivial,z1 _ _ hn (decide_eq_false c1) (decide_eq_true c2)⟩) (by simp) g rfl rfl) fun w v hr=>opZ_is hr
  by_cases c3:sizW E P X<infOf E P
  ·have hk:kindOf E P X=2:=by unfold kindOf;rw[if_neg c1,if_neg c2,if_pos c3]
   have hK:opK E P X=sgM true (magOf P (sizW E P X)):=by unfold opK;rw[hk,hneg];rfl
   rw[hk,hK]
   have hrun:=dec_t_f E P m X
   rw[eS,wX_wordV]at hrun
   refine con_op decodeC_ok hrun ?_ (by simp) g
   unfold dcs5
   simp only[List.forall_mem_cons,eS,wX_wordV]
   exact⟨trivial,by simp[h,bS,c3],z2 _ _ hn (decide_eq_false c1) (decide_eq_false c2) (decide_eq_true c3)⟩
  by_cases c4:sizW E P X<quietOf E P
  ·have hk:kindOf E P X=5:=by unfold kindOf;rw[if_neg c1,if_neg c2,if_neg c3,if_pos c4]
   have hK:opK E P X=(sizW E P X-infOf E P)*2^(0-fineOf E P).toNat:=by unfold opK;rw[hk];rfl
   rw[hk,hK]
   have hrun:=dec_t_s E P m X
   rw[pay _ (by omega) (by omega),wX_wordV]at hrun
   exact con_imp (con_op decodeC_ok hrun (z4 _ _ (by omega) (by omega) bI (by omega) (z3 _ _ hn (decide_eq_false c1) (decide_eq_false c2) (decide_eq_false c3) (decide_eq_true c4))) (by simp) g) fun w v hr=>lowK _ _ _ _ _ hr
  ·have hk:kindOf E P X=4:=by unfold kindOf;rw[if_neg c1,if_neg c2,if_neg c3,if_neg c4]
   have hK:opK E P X=(sizW E P X-quietOf E P)*2^(0-fineOf E P).toNat:=by unfold opK;rw[hk];rfl
   rw[hk,hK]
   have hrun:=dec_t_q E P m X
   rw[pay _ (by omega) (by omega),wX_wordV]at hrun
   exact con_imp (con_op decodeC_ok hrun (z4 _ _ (by omega) (by omega) bQ (by omega) (z3 _ _ hn (decide_eq_false c1) (decide_eq_false c2) (decide_eq_false c3) (decide_eq_false c4))) (by simp) g) fun w v hr=>lowK _ _ _ _ _ hr
def decodeS(xs:List Ar):Option Res:=match xs with
 |[.v a,.v b]=>match mach3 a with
  |some (E,P,_)=>some (opR (kindOf E P (wX b)) (negOf E P (wX b)) (opK E P (wX b)) (fineOf E P))
  |none=>none
 |_=>none
def decodeP(xs:List Ar):Bool:=match xs with
 |[.v a,.v b]=>match mach3 a with
  |some (E,P,_)=>decide (Fmt E P)&&(wB b&&decide (wX b<2*signOf E P))
  |none=>false
 |_=>false
def decodeO:CF→St→Option (Value×St):=oracle 144 (conSpec TR decodeP decodeS)
theorem decodeO_ok:RunOkE Tryz.prog decodeO:=con_oracle numG gTR roTR2 fun xs R h hp=>by
 unfold decodeS at h
 split at h
 ·split at h
  ·rename_i hm
   injection h with h
   subst h
   unfold decodeP at hp
   simp only[hm,Bool.and_eq_true]at hp
   rw[mach3_ok hm,wB_eq hp.2.1,wX_wordV]
   exact decode_con (of_decide_eq_true hp.1) (wX_range hp.2.1).1 (of_decide_eq_true hp.2.2)
  ·cases h
 ·cases h
end Go.Proofs.YtedhbbjlbgpafaaGreatDoor
