/-
  What a number is in steps; which way a rest goes; the mode of a size; by runs with unknown numbers.
-/
import Derived.Test.YtedhbbjlbgpafaaGreatDoorP20
set_option linter.unusedVariables false
set_option linter.unusedSimpArgs false
set_option maxRecDepth 1000000
namespace Go.Proofs.YtedhbbjlbgpafaaGreatDoor
open Go.RowKit Go.Shelf Go.Canon
def inStepsC:CF→St→Option (Value×St):=orElse absO (orElse shiftedO (orElse floorO (orElse toWordO (orElse isIntO rightO))))
theorem inStepsC_ok:RunOkE Tryz.prog inStepsC:=orElse_ok absO_ok (orElse_ok shiftedO_ok (orElse_ok floorO_ok (orElse_ok toWordO_ok (orElse_ok isIntO_ok rightO_ok))))
def stepsCs(K k s:Int)(odd int:Bool):List (Bool×Bool):=
 let A:Int:=K.natAbs
 let D:=IntKind.i64.wrap (1-s)
 let e:=k+D
 let F:=floorK A e
 let W:=F*2^(0:Int).toNat
 [(true,true),(wB (wordV W)&&decide ((0:Int)≤1∧(1:Int)≤127),true),(isI' A e,int),(true,true),(decide (A<0)==decide (A<0),true),
  (bits BinOp.and IntKind.u64 (W%18446744073709551616) 1==1,odd),(true,true),(true,true),
  (decide ((0:Int)≤0∧0≤F*2^(0:Int).toNat∧F*2^(0:Int).toNat<2^124),true),(decide (F<0)==decide (F<0),true),
  (decide (-sml<A*2^e.toNat∧A*2^e.toNat<sml∧ -50000≤e),true),(decide (A<0)==decide (A<0),true),(true,true),
  (decide (inB A k∧ -20000≤D∧D≤20000),true),(decide (A<0)==decide (A<0),true),(true,true),(decide (K<0)==decide (K<0),true)]
def stepsV(K k s rest:Int):Value:=
 .tuple #[wordV (wX (wordV (floorK K.natAbs (k+IntKind.i64.wrap (1-s))*2^(0:Int).toNat))/2^(1:Int).toNat),.int .i64 rest]
theorem inSteps_ff(K k s:Int):conRun Tryz.prog TR inStepsC 1000 177 [.n K k,.v (.int .i64 s)] [false,false,true] 2=some (stepsV K k s 1,some (.fact 0),stepsCs K k s false false):=by kernel_rfl
theorem inSteps_ft(K k s:Int):conRun Tryz.prog TR inStepsC 1000 177 [.n K k,.v (.int .i64 s)] [false,true,true] 2=some (stepsV K k s 0,some (.fact 0),stepsCs K k s false true):=by kernel_rfl
theorem inSteps_tf(K k s:Int):conRun Tryz.prog TR inStepsC 1000 177 [.n K k,.v (.int .i64 s)] [true,false,true] 2=some (stepsV K k s 3,some (.fact 0),stepsCs K k s true false):=by kernel_rfl
theorem inSteps_tt(K k s:Int):conRun Tryz.prog TR inStepsC 1000 177 [.n K k,.v (.int .i64 s)] [true,true,true] 2=some (stepsV K k s 2,some (.fact 0),stepsCs K k s true true):=by kernel_rfl
def upOf(m:Int)(odd:Bool)(r:Int):Bool:=
 if m=3 then r !=0 else if m=0 then(if r=2∧odd=false then false else decide (r≥2))else if m=1 then decide (r≥2)else false
noncomputable def upCheck(m:Int)(odd:Bool)(r:Int):Bool:=
 match conRun Tryz.prog TR noCall 1000 180 [.v (.int .i64 m),.v (.bool odd),.v (.int .i64 r)] [] 2 with
 |some (.bool b,_,[])=>b==upOf m odd r
 |_=>false
theorem up_all:([0,1,2,3,4].all fun m=>[true,false].all fun o=>[0,1,2,3].all fun r=>upCheck m o r)=true:=by kernel_rfl
theorem up_con{m r:Int}(odd:Bool)(h0:0≤m)(h1:m≤4)(h2:0≤r)(h3:r≤3):Con Tryz.prog TR 180 [.v (.int .i64 m),.v (.bool odd),.v (.int .i64 r)] ⟨none,.bool (upOf m odd r)⟩:=by
 have h:=up_all
 rw[List.all_eq_true]at h
 have hm:=h m (by simp;omega)
 rw[List.all_eq_true]at hm
 have ho:=hm odd (by cases odd<;>simp)
 rw[List.all_eq_true]at ho
 have hr:=ho r (by simp;omega)
 unfold upCheck at hr
 split at hr
 ·rename_i b o hrun
  refine con_plain (noCall_ok _) hrun (fun c hc=>by cases hc) (by simp) (fun x hx=>by simp at hx;rcases hx with rfl|rfl|rfl<;>rfl) ?_ rfl
  rw[eq_of_beq hr]
 ·cases hr
def upS(xs:List Ar):Option Res:=match xs with
 |[.v (.int .i64 m),.v (.bool o),.v (.int .i64 r)]=>some (⟨none,.bool (upOf m o r)⟩:Res)
 |_=>none
def upP(xs:List Ar):Bool:=match xs with
 |[.v (.int .i64 m),.v (.bool _),.v (.int .i64 r)]=>decide (0≤m∧m≤4∧0≤r∧r≤3)
 |_=>false
def upO:CF→St→Option (Value×St):=oracle 180 (conSpec TR upP upS)
theorem upO_ok:RunOkE Tryz.prog upO:=con_oracle numG gTR roTR2 fun xs R h hp=>by
 unfold upS at h
 split at h
 ·injection h with h
  subst h
  unfold upP at hp
  obtain⟨h1,h2,h3,h4⟩:=of_decide_eq_true hp
  exact up_con _ h1 h2 h3 h4
 ·cases h
def modeOf(m:Int)(neg:Bool):Int:=if neg=true then(if m=3 then 4 else if m=4 then 3 else m)else m
noncomputable def modeRun(E P m:Int)(neg:Bool):Option (Value×Option CObj×List (Bool×Bool)):=conRun Tryz.prog TR noCall 1000 174 [.v (machV E P m),.v (.bool neg)] [] 2
theorem mode_0(E P:Int)(neg:Bool):modeRun E P 0 true=some (.int .i64 0,some (.fact 0),[])∧modeRun E P 0 false=some (.int .i64 0,some (.fact 0),[]):=⟨by kernel_rfl,by kernel_rfl⟩
theorem mode_1(E P:Int)(neg:Bool):modeRun E P 1 true=some (.int .i64 1,some (.fact 0),[])∧modeRun E P 1 false=some (.int .i64 1,some (.fact 0),[]):=⟨by kernel_rfl,by kernel_rfl⟩
theorem mode_2(E P:Int)(neg:Bool):modeRun E P 2 true=some (.int .i64 2,some (.fact 0),[])∧modeRun E P 2 false=some (.int .i64 2,some (.fact 0),[]):=⟨by kernel_rfl,by kernel_rfl⟩
theorem mode_3(E P:Int)(neg:Bool):modeRun E P 3 true=some (.int .i64 4,some (.fact 0),[])∧modeRun E P 3 false=some (.int .i64 3,some (.fact 0),[]):=⟨by kernel_rfl,by kernel_rfl⟩
theorem mode_4(E P:Int)(neg:Bool):modeRun E P 4 true=some (.int .i64 3,some (.fact 0),[])∧modeRun E P 4 false=some (.int .i64 4,some (.fact 0),[]):=⟨by kernel_rfl,by kernel_rfl⟩
theorem mode_con{E P m:Int}(neg:Bool)(h0:0≤m)(h1:m≤4):Con Tryz.prog TR 174 [.v (machV E P m),.v (.bool neg)] ⟨none,.int .i64 (modeOf m neg)⟩:=by
 have g: ∀m,∀x,Ar.v x∈ [Ar.v (machV E P m),.v (.bool neg)]→ground 9 x=true:=fun m x hx=>by
  simp at hx;rcases hx with rfl|rfl<;>rfl
 have fin: ∀{m v:Int},modeRun E P m neg=some (.int .i64 v,some (.fact 0),[])→v=modeOf m neg→Con Tryz.prog TR 174 [.v (machV E P m),.v (.bool neg)] ⟨none,.int .i64 (modeOf m neg)⟩:=fun h e=>
  con_plain (noCall_ok _) h (fun c hc=>by cases hc) (by simp) (g _) (by rw[e]) rfl
 rcases(show m=0∨m=1∨m=2∨m=3∨m=4 by omega)with rfl|rfl|rfl|rfl|rfl<;>cases neg
 ·exact fin (mode_0 E P true).2 rfl
 ·exact fin (mode_0 E P true).1 rfl
 ·exact fin (mode_1 E P true).2 rfl
 ·exact fin (mode_1 E P true).1 rfl
 ·exact fin (mode_2 E P true).2 rfl
 ·exact fin (mode_2 E P true).1 rfl
 ·exact fin (mode_3 E P true).2 rfl
 ·exact fin (mode_3 E P true).1 rfl
 ·exact fin (mode_4 E P true).2 rfl
 ·exact fin (mode_4 E P true).1 rfl
def modeS(xs:List Ar):Option Res:=match xs with
 |[.v a,.v (.bool b)]=>match mach3 a with
  |some (_,_,m)=>some (⟨none,.int .i64 (modeOf m b)⟩:Res)
  |none=>none
 |_=>none
def modeP(xs:List Ar):Bool:=match xs with
 |[.v a,.v (.bool _)]=>match mach3 a with
  |some (_,_,m)=>decide (0≤m∧m≤4)
  |none=>false
 |_=>false
def modeO:CF→St→Option (Value×St):=oracle 174 (conSpec TR modeP modeS)
theorem modeO_ok:RunOkE Tryz.prog modeO:=con_oracle numG gTR roTR2 fun xs R h hp=>by
 unfold modeS at h
 split at h
 ·split at h
  ·rename_i hm
   injection h with h
   subst h
   unfold modeP at hp
   simp only[hm]at hp
   rw[mach3_ok hm]
   exact mode_con _ (of_decide_eq_true hp).1 (of_decide_eq_true hp).2
  ·cases h
 ·cases h
theorem wX_wordV(X:Int):wX (wordV X)=X:=by
 show X/18446744073709551616*18446744073709551616+X%18446744073709551616=X
 omega
theorem wB_wordV{X:Int}(h0:0≤X)(h1:X<two128):wB (wordV X)=true:=by
 rw[two128_eq]at h1
 show decide (0≤X/18446744073709551616∧X/18446744073709551616<18446744073709551616∧0≤X%18446744073709551616∧X%18446744073709551616<18446744073709551616)=true
 exact decide_eq_true ⟨by omega,by omega,by omega,by omega⟩
def ovfC:CF→St→Option (Value×St):=orElse infinityO (orElse modeO (orElse oneO (orElse minusO signedO)))
theorem ovfC_ok:RunOkE Tryz.prog ovfC:=orElse_ok infinityO_ok (orElse_ok modeO_ok (orElse_ok oneO_ok (orElse_ok minusO_ok signedO_ok)))
def ovW(E P m:Int)(neg:Bool):Int:=(if modeOf m neg=2∨modeOf m neg=4 then infOf E P-1 else infOf E P)+(if neg=true then signOf E P else 0)
theorem groundMB(E P m:Int)(b:Bool): ∀x,Ar.v x∈ [Ar.v (machV E P m),.v (.bool b)]→ground 9 x=true:=fun x hx=>by
 simp at hx;rcases hx with rfl|rfl<;>rfl
theorem ovf_true_a(E P m:Int):conRun Tryz.prog TR ovfC 1000 176 [.v (machV E P m),.v (.bool true)] [true,true] 2=
 some (.tuple #[wordV (wX (wordV ((wX (wordV (infOf E P))-wX (wordV 1))%two128))+signOf E P),.int .i64 20],some (.fact 0),[(true,true),(decide (Fmt E P)&&(wB (wordV ((wX (wordV (infOf E P))-wX (wordV 1))%two128))&&decide (wX (wordV ((wX (wordV (infOf E P))-wX (wordV 1))%two128))<signOf E P)),true),(true,true),(wB (wordV (infOf E P))&&wB (wordV 1),true),(true,true),(modeOf m true==2,true),(decide (0≤m∧m≤4),true),(true,true),(decide (Fmt E P),true)]):=by kernel_rfl
theorem ovf_true_b(E P m:Int):conRun Tryz.prog TR ovfC 1000 176 [.v (machV E P m),.v (.bool true)] [false,true,true] 2=
 some (.tuple #[wordV (wX (wordV ((wX (wordV (infOf E P))-wX (wordV 1))%two128))+signOf E P),.int .i64 20],some (.fact 0),[(true,true),(decide (Fmt E P)&&(wB (wordV ((wX (wordV (infOf E P))-wX (wordV 1))%two128))&&decide (wX (wordV ((wX (wordV (infOf E P))-wX (wordV 1))%two128))<signOf E P)),true),(true,true),(wB (wordV (infOf E P))&&wB (wordV 1),true),(true,true),(modeOf m true==4,true),(modeOf m true==2,false),(decide (0≤m∧m≤4),true),(true,true),(decide (Fmt E P),true)]):=by kernel_rfl
theorem ovf_true_c(E P m:Int):conRun Tryz.prog TR ovfC 1000 176 [.v (machV E P m),.v (.bool true)] [false,false,true] 2=
 some (.tuple #[wordV (wX (wordV (infOf E P))+signOf E P),.int .i64 20],some (.fact 0),[(true,true),(decide (Fmt E P)&&(wB (wordV (infOf E P))&&decide (wX (wordV (infOf E P))<signOf E P)),true),(modeOf m true==4,false),(modeOf m true==2,false),(decide (0≤m∧m≤4),true),(true,true),(decide (Fmt E P),true)]):=by kernel_rfl
theorem ovf_false_a(E P m:Int):conRun Tryz.prog TR ovfC 1000 176 [.v (machV E P m),.v (.bool false)] [true,true] 2=
 some (.tuple #[wordV (wX (wordV ((wX (wordV (infOf E P))-wX (wordV 1))%two128))),.int .i64 20],some (.fact 0),[(true,true),(decide (Fmt E P)&&(wB (wordV ((wX (wordV (infOf E P))-wX (wordV 1))%two128))&&decide (wX (wordV ((wX (wordV (infOf E P))-wX (wordV 1))%two128))<signOf E P)),true),(true,true),(wB (wordV (infOf E P))&&wB (wordV 1),true),(true,true),(modeOf m false==2,true),(decide (0≤m∧m≤4),true),(true,true),(decide (Fmt E P),true)]):=by kernel_rfl
theorem ovf_false_b(E P m:Int):conRun Tryz.prog TR ovfC 1000 176 [.v (machV E P m),.v (.bool false)] [false,true,true] 2=
 some (.tuple #[wordV (wX (wordV ((wX (wordV (infOf E P))-wX (wordV 1))%two128))),.int .i64 20],some (.fact 0),[(true,true),(decide (Fmt E P)&&(wB (wordV ((wX (wordV (infOf E P))-wX (wordV 1))%two128))&&decide (wX (wordV ((wX (wordV (infOf E P))-wX (wordV 1))%two128))<signOf E P)),true),(true,true),(wB (wordV (infOf E P))&&wB (wordV 1),true),(true,true),(modeOf m false==4,true),(modeOf m false==2,false),(decide (0≤m∧m≤4),true),(true,true),(decide (Fmt E P),true)]):=by kernel_rfl
theorem ovf_false_c(E P m:Int):conRun Tryz.prog TR ovfC 1000 176 [.v (machV E P m),.v (.bool false)] [false,false,true] 2=
 some (.tuple #[wordV (wX (wordV (infOf E P))),.int .i64 20],some (.fact 0),[(true,true),(decide (Fmt E P)&&(wB (wordV (infOf E P))&&decide (wX (wordV (infOf E P))<signOf E P)),true),(modeOf m false==4,false),(modeOf m false==2,false),(decide (0≤m∧m≤4),true),(true,true),(decide (Fmt E P),true)]):=by kernel_rfl
theorem ovf_con{E P m:Int}(neg:Bool)(h:Fmt E P)(h0:0≤m)(h1:m≤4):Con Tryz.prog TR 176 [.v (machV E P m),.v (.bool neg)] ⟨none,.tuple #[wordV (ovW E P m neg),.int .i64 20]⟩:=by
 have hi:=inf_range h
 have hs:=sign_range h
 have e1:(infOf E P-1)%two128=infOf E P-1:=Int.emod_eq_of_lt (by omega) (by omega)
 have b0:wB (wordV (infOf E P))=true:=wB_wordV (by omega) (by omega)
 have b1:wB (wordV 1)=true:=wB_wordV (by omega) (by rw[two128_eq];omega)
 have b2:wB (wordV (infOf E P-1))=true:=wB_wordV (by omega) (by omega)
 have l0:infOf E P<signOf E P:=hi.2.1
 have l1:infOf E P-1<signOf E P:=by omega
 cases neg
 ·by_cases c2:modeOf m false=2
  ·refine con_plain ovfC_ok (ovf_false_a E P m) (by simp[h,h0,h1,c2,wX_wordV,e1,b0,b1,b2,l1]) (by simp) (groundMB E P m _) ?_ rfl
   simp[ovW,c2,wX_wordV,e1]
  ·by_cases c4:modeOf m false=4
   ·refine con_plain ovfC_ok (ovf_false_b E P m) (by simp[h,h0,h1,c2,c4,wX_wordV,e1,b0,b1,b2,l1]) (by simp) (groundMB E P m _) ?_ rfl
    simp[ovW,c4,wX_wordV,e1]
   ·refine con_plain ovfC_ok (ovf_false_c E P m) (by simp[h,h0,h1,c2,c4,wX_wordV,b0,l0]) (by simp) (groundMB E P m _) ?_ rfl
    simp[ovW,c2,c4,wX_wordV]
 ·by_cases c2:modeOf m true=2
  ·refine con_plain ovfC_ok (ovf_true_a E P m) (by simp[h,h0,h1,c2,wX_wordV,e1,b0,b1,b2,l1]) (by simp) (groundMB E P m _) ?_ rfl
   simp[ovW,c2,wX_wordV,e1]
  ·by_cases c4:modeOf m true=4
   ·refine con_plain ovfC_ok (ovf_true_b E P m) (by simp[h,h0,h1,c2,c4,wX_wordV,e1,b0,b1,b2,l1]) (by simp) (groundMB E P m _) ?_ rfl
    simp[ovW,c4,wX_wordV,e1]
   ·refine con_plain ovfC_ok (ovf_true_c E P m) (by simp[h,h0,h1,c2,c4,wX_wordV,b0,l0]) (by simp) (groundMB E P m _) ?_ rfl
    simp[ovW,c2,c4,wX_wordV]
def ovfS(xs:List Ar):Option Res:=match xs with
 |[.v a,.v (.bool b)]=>match mach3 a with
  |some (E,P,m)=>some (⟨none,.tuple #[wordV (ovW E P m b),.int .i64 20]⟩:Res)
  |none=>none
 |_=>none
def ovfP(xs:List Ar):Bool:=match xs with
 |[.v a,.v (.bool _)]=>match mach3 a with
  |some (E,P,m)=>decide (Fmt E P)&&decide (0≤m∧m≤4)
  |none=>false
 |_=>false
def ovfO:CF→St→Option (Value×St):=oracle 176 (conSpec TR ovfP ovfS)
theorem ovfO_ok:RunOkE Tryz.prog ovfO:=con_oracle numG gTR roTR2 fun xs R h hp=>by
 unfold ovfS at h
 split at h
 ·split at h
  ·rename_i hm
   injection h with h
   subst h
   unfold ovfP at hp
   simp only[hm,Bool.and_eq_true]at hp
   rw[mach3_ok hm]
   have h2:=of_decide_eq_true hp.2
   exact ovf_con _ (of_decide_eq_true hp.1) h2.1 h2.2
  ·cases h
 ·cases h
def restF(A e:Int):Int:=(if floorK A e%2=1 then 2 else 0)+(if isI' A e=true then 0 else 1)
def stepsOk(K k s:Int):Prop:=inB K k∧ -20000≤1-s∧1-s≤20000∧ -50000≤k+(1-s)∧(K.natAbs:Int)*2^(k+(1-s)).toNat<sml∧floorK K.natAbs (k+(1-s))<2^124
instance (K k s:Int):Decidable (stepsOk K k s):=by unfold stepsOk;infer_instance
theorem inSteps_con{K k s:Int}(h:stepsOk K k s):Con Tryz.prog TR 177 [.n K k,.v (.int .i64 s)] ⟨none,.tuple #[wordV (floorK K.natAbs (k+(1-s))/2),.int .i64 (restF K.natAbs (k+(1-s)))]⟩:=by
 obtain⟨hb,h1,h2,h3,h4,h5⟩:=h
 have hw:IntKind.i64.wrap (1-s)=1-s:=wrapI (by omega)
 have hA:(0:Int)≤K.natAbs:=by omega
 have hbA:inB (K.natAbs:Int) k:=by obtain⟨a,b,c,d⟩:=hb;exact⟨by omega,by omega,c,d⟩
 have hm:0≤(K.natAbs:Int)*2^(k+(1-s)).toNat:=Int.mul_nonneg hA (Int.le_of_lt (p2pos _))
 have hF:0≤floorK K.natAbs (k+(1-s)):=Int.ediv_nonneg hm (Int.le_of_lt (p2pos _))
 have hs: -sml<(K.natAbs:Int)*2^(k+(1-s)).toNat:=by have:(0:Int)<sml:=p2pos _;omega
 have g: ∀x,Ar.v x∈ [Ar.n K k,.v (.int .i64 s)]→ground 9 x=true:=fun x hx=>by simp at hx;subst hx;rfl
 have e0:(2:Int)^(0:Int).toNat=1:=rfl
 have e1:(2:Int)^(1:Int).toNat=2:=rfl
 have p124:(2:Int)^124=21267647932558653966460912964485513216:=by decide
 generalize hFd:floorK K.natAbs (k+(1-s))=F at*
 have hbit:bits BinOp.and IntKind.u64 (F%18446744073709551616) 1=F%2:=by
  rw[and_one_u64 _ (by omega) (by omega)];omega
 have hwb:wB (wordV F)=true:=wB_wordV hF (by rw[two128_eq];omega)
 have h5':F<21267647932558653966460912964485513216:=by omega
 have key: ∀odd int:Bool,(F%2==1)=odd→isI' K.natAbs (k+(1-s))=int→ ∀c∈stepsCs K k s odd int,c.1=c.2:=by
  intro odd int ho hi
  unfold stepsCs
  simp only[hw,hFd,e0,Int.mul_one,hbit]
  simp[ho,hi,hbA,h1,h2,hs,h4,h3,hF,h5',hwb]
 have val: ∀r,stepsV K k s r=.tuple #[wordV (F/2),.int .i64 r]:=by
  intro r
  unfold stepsV
  simp only[hw,hFd,e0,e1,Int.mul_one,wX_wordV]
 have rest:restF K.natAbs (k+(1-s))=(if F%2=1 then 2 else 0)+(if isI' K.natAbs (k+(1-s))=true then 0 else 1):=by unfold restF;rw[hFd]
 cases ho:(F%2==1)
 ·have ho': ¬F%2=1:=by simpa using ho
  cases hi:isI' K.natAbs (k+(1-s))
  ·refine con_plain inStepsC_ok (inSteps_ff K k s) (key _ _ ho hi) (by simp) g ?_ rfl
   rw[val,rest,hi,if_neg ho'];rfl
  ·refine con_plain inStepsC_ok (inSteps_ft K k s) (key _ _ ho hi) (by simp) g ?_ rfl
   rw[val,rest,hi,if_neg ho'];rfl
 ·have ho':F%2=1:=by simpa using ho
  cases hi:isI' K.natAbs (k+(1-s))
  ·refine con_plain inStepsC_ok (inSteps_tf K k s) (key _ _ ho hi) (by simp) g ?_ rfl
   rw[val,rest,hi,if_pos ho'];rfl
  ·refine con_plain inStepsC_ok (inSteps_tt K k s) (key _ _ ho hi) (by simp) g ?_ rfl
   rw[val,rest,hi,if_pos ho'];rfl
def inStepsS(xs:List Ar):Option Res:=match xs with
 |[.n K k,.v (.int .i64 s)]=>some (⟨none,.tuple #[wordV (floorK K.natAbs (k+(1-s))/2),.int .i64 (restF K.natAbs (k+(1-s)))]⟩:Res)
 |_=>none
def inStepsP(xs:List Ar):Bool:=match xs with
 |[.n K k,.v (.int .i64 s)]=>decide (stepsOk K k s)
 |_=>false
def inStepsO:CF→St→Option (Value×St):=oracle 177 (conSpec TR inStepsP inStepsS)
theorem inStepsO_ok:RunOkE Tryz.prog inStepsO:=con_oracle numG gTR roTR2 fun xs R h hp=>by
 unfold inStepsS at h
 split at h
 ·injection h with h
  subst h
  unfold inStepsP at hp
  exact inSteps_con (of_decide_eq_true hp)
 ·cases h
def roundC:CF→St→Option (Value×St):=orElse logO (orElse signO (orElse modeO (orElse biasO (orElse ovfO (orElse stepO (orElse inStepsO (orElse lowestO (orElse leftO (orElse plusO (orElse upO (orElse oneO (orElse infinityO (orElse lessO signedO)))))))))))))
theorem roundC_ok:RunOkE Tryz.prog roundC:=orElse_ok logO_ok (orElse_ok signO_ok (orElse_ok modeO_ok (orElse_ok biasO_ok (orElse_ok ovfO_ok (orElse_ok stepO_ok (orElse_ok inStepsO_ok (orElse_ok lowestO_ok (orElse_ok leftO_ok (orElse_ok plusO_ok (orElse_ok upO_ok (orElse_ok oneO_ok (orElse_ok infinityO_ok (orElse_ok lessO_ok signedO_ok)))))))))))))
def rD(E P K k:Int):Int:=floorK K.natAbs (k+(1-stepOf E P K k))/2
def rR(E P K k:Int):Int:=restF K.natAbs (k+(1-stepOf E P K k))
def rT(E K k:Int):Int:=IntKind.u64.wrap (if 0>IntKind.i64.wrap (logI K k-(1-biasOf E))then 0 else IntKind.i64.wrap (logI K k-(1-biasOf E)))
def rL(E P K k:Int):Value:=wordV (wX (.agg #[.int .u64 0,.int .u64 (rT E K k)])*2^(IntKind.i64.wrap (P-1)).toNat%two128)
def rS(E P K k:Int):Value:=wordV ((wX (rL E P K k)+wX (wordV (rD E P K k)))%two128)
def rU(E P K k:Int):Value:=wordV ((wX (rS E P K k)+wX (wordV 1))%two128)
def cs0(K k:Int)(z:Bool):List (Bool×Bool):=[(logE K !=0,z),(decide (inB K k),true),(decide (K<0)==decide (K<0),true)]
def cs1(E P m K k:Int)(neg big:Bool):List (Bool×Bool):=
 (decide (logI K k>biasOf E),big)::(decide (Fmt E P),true)::(decide (0≤m∧m≤4),true)::(decide (sgI K<0),neg)::(true,true)::(decide (K<0)==decide (K<0),true)::
  (decide (sgI K<0),neg)::(true,true)::(decide (K<0)==decide (K<0),true)::cs0 K k false
def cs2(E P m K k:Int)(neg odd up:Bool):List (Bool×Bool):=
 (upOf (modeOf m neg) odd (rR E P K k),up)::(decide (0≤modeOf m neg∧modeOf m neg≤4∧0≤rR E P K k∧rR E P K k≤3),true)::(bits BinOp.and IntKind.u64 (rD E P K k%18446744073709551616) 1==1,odd)::(true,true)::
  (true,true)::(wB (rL E P K k)&&wB (wordV (rD E P K k)),true)::(wB (.agg #[.int .u64 0,.int .u64 (rT E K k)])&&decide (0≤IntKind.i64.wrap (P-1)∧IntKind.i64.wrap (P-1)≤127),true)::(true,true)::(decide (Fmt E P),true)::
  (true,true)::(decide (stepsOk K k (stepOf E P K k)),true)::(decide (K<0)==decide (K<0),true)::(decide (Fmt E P)&&decide (inB K k),true)::(decide (K<0)==decide (K<0),true)::cs1 E P m K k neg false
def cs3(E P m K k:Int)(neg odd:Bool):List (Bool×Bool):=(true,true)::(wB (rS E P K k)&&wB (wordV 1),true)::(true,true)::cs2 E P m K k neg odd true
def cs4(E P m:Int)(s:Value)(lt:Bool)(l:List (Bool×Bool)):List (Bool×Bool):=(decide (wX s<wX (wordV (infOf E P))),lt)::(wB s&&wB (wordV (infOf E P)),true)::(decide (Fmt E P),true)::l
def cs5(E P m:Int)(l:List (Bool×Bool)):List (Bool×Bool):=(true,true)::(decide (Fmt E P)&&decide (0≤m∧m≤4),true)::l
def cs6(E P:Int)(s:Value)(l:List (Bool×Bool)):List (Bool×Bool):=(true,true)::(decide (Fmt E P)&&(wB s&&decide (wX s<signOf E P)),true)::l
def cs7(E P K k:Int)(tiny:Bool)(l:List (Bool×Bool)):List (Bool×Bool):=(decide (logI K k<1-biasOf E),tiny)::(decide (Fmt E P),true)::(rR E P K k !=0,true)::l
noncomputable def roundRun(E P m K k:Int)(an:List Bool):Option (Value×Option CObj×List (Bool×Bool)):=conRun Tryz.prog TR roundC 1000 96 [.v (machV E P m),.n K k] an 2
theorem round_zero(E P m K k:Int):roundRun E P m K k [true,true]=some (.tuple #[.agg #[.int .u64 0,.int .u64 0],.int .i64 0],some (.fact 0),(true,true)::cs0 K k true):=by kernel_rfl
theorem round_big_t(E P m K k:Int):roundRun E P m K k [false,true,true,true,true]=some (.tuple #[wordV (ovW E P m true),.int .i64 20],some (.fact 0),cs5 E P m (cs1 E P m K k true true)):=by kernel_rfl
theorem round_ttt_o(E P m K k:Int):roundRun E P m K k [false,true,true,false,true,true,false,true]=some (.tuple #[wordV (ovW E P m true),.int .i64 20],some (.fact 0),cs5 E P m (cs4 E P m (rU E P K k) false (cs3 E P m K k true true))):=by kernel_rfl
theorem round_ttt_e(E P m K k:Int):roundRun E P m K k [false,true,true,false,true,true,true,false,true]=some (.tuple #[wordV (wX (rU E P K k)+signOf E P),.int .i64 0],some (.fact 0),cs6 E P (rU E P K k) ((rR E P K k !=0,false)::cs4 E P m (rU E P K k) true (cs3 E P m K k true true))):=by kernel_rfl
theorem round_ttt_i(E P m K k:Int):roundRun E P m K k [false,true,true,false,true,true,true,true,false,true]=some (.tuple #[wordV (wX (rU E P K k)+signOf E P),.int .i64 16],some (.fact 0),cs6 E P (rU E P K k) (cs7 E P K k false (cs4 E P m (rU E P K k) true (cs3 E P m K k true true)))):=by kernel_rfl
theorem round_ttt_t(E P m K k:Int):roundRun E P m K k [false,true,true,false,true,true,true,true,true,true]=some (.tuple #[wordV (wX (rU E P K k)+signOf E P),.int .i64 24],some (.fact 0),cs6 E P (rU E P K k) (cs7 E P K k true (cs4 E P m (rU E P K k) true (cs3 E P m K k true true)))):=by kernel_rfl
theorem round_ttf_o(E P m K k:Int):roundRun E P m K k [false,true,true,false,true,false,false,true]=some (.tuple #[wordV (ovW E P m true),.int .i64 20],some (.fact 0),cs5 E P m (cs4 E P m (rS E P K k) false (cs2 E P m K k true true false))):=by kernel_rfl
theorem round_ttf_e(E P m K k:Int):roundRun E P m K k [false,true,true,false,true,false,true,false,true]=some (.tuple #[wordV (wX (rS E P K k)+signOf E P),.int .i64 0],some (.fact 0),cs6 E P (rS E P K k) ((rR E P K k !=0,false)::cs4 E P m (rS E P K k) true (cs2 E P m K k true true false))):=by kernel_rfl
theorem round_ttf_i(E P m K k:Int):roundRun E P m K k [false,true,true,false,true,false,true,true,false,true]=some (.tuple #[wordV (wX (rS E P K k)+signOf E P),.int .i64 16],some (.fact 0),cs6 E P (rS E P K k) (cs7 E P K k false (cs4 E P m (rS E P K k) true (cs2 E P m K k true true false)))):=by kernel_rfl
theorem round_ttf_t(E P m K k:Int):roundRun E P m K k [false,true,true,false,true,false,true,true,true,true]=some (.tuple #[wordV (wX (rS E P K k)+signOf E P),.int .i64 24],some (.fact 0),cs6 E P (rS E P K k) (cs7 E P K k true (cs4 E P m (rS E P K k) true (cs2 E P m K k true true false)))):=by kernel_rfl
theorem round_tft_o(E P m K k:Int):roundRun E P m K k [false,true,true,false,false,true,false,true]=some (.tuple #[wordV (ovW E P m true),.int .i64 20],some (.fact 0),cs5 E P m (cs4 E P m (rU E P K k) false (cs3 E P m K k true false))):=by kernel_rfl
theorem round_tft_e(E P m K k:Int):roundRun E P m K k [false,true,true,false,false,true,true,false,true]=some (.tuple #[wordV (wX (rU E P K k)+signOf E P),.int .i64 0],some (.fact 0),cs6 E P (rU E P K k) ((rR E P K k !=0,false)::cs4 E P m (rU E P K k) true (cs3 E P m K k true false))):=by kernel_rfl
theorem round_tft_i(E P m K k:Int):roundRun E P m K k [false,true,true,false,false,true,true,true,false,true]=some (.tuple #[wordV (wX (rU E P K k)+signOf E P),.int .i64 16],some (.fact 0),cs6 E P (rU E P K k) (cs7 E P K k false (cs4 E P m (rU E P K k) true (cs3 E P m K k true false)))):=by kernel_rfl
theorem round_tft_t(E P m K k:Int):roundRun E P m K k [false,true,true,false,false,true,true,true,true,true]=some (.tuple #[wordV (wX (rU E P K k)+signOf E P),.int .i64 24],some (.fact 0),cs6 E P (rU E P K k) (cs7 E P K k true (cs4 E P m (rU E P K k) true (cs3 E P m K k true false)))):=by kernel_rfl
theorem round_tff_o(E P m K k:Int):roundRun E P m K k [false,true,true,false,false,false,false,true]=some (.tuple #[wordV (ovW E P m true),.int .i64 20],some (.fact 0),cs5 E P m (cs4 E P m (rS E P K k) false (cs2 E P m K k true false false))):=by kernel_rfl
theorem round_tff_e(E P m K k:Int):roundRun E P m K k [false,true,true,false,false,false,true,false,true]=some (.tuple #[wordV (wX (rS E P K k)+signOf E P),.int .i64 0],some (.fact 0),cs6 E P (rS E P K k) ((rR E P K k !=0,false)::cs4 E P m (rS E P K k) true (cs2 E P m K k true false false))):=by kernel_rfl
theorem round_tff_i(E P m K k:Int):roundRun E P m K k [false,true,true,false,false,false,true,true,false,true]=some (.tuple #[wordV (wX (rS E P K k)+signOf E P),.int .i64 16],some (.fact 0),cs6 E P (rS E P K k) (cs7 E P K k false (cs4 E P m (rS E P K k) true (cs2 E P m K k true false false)))):=by kernel_rfl
theorem round_tff_t(E P m K k:Int):roundRun E P m K k [false,true,true,false,false,false,true,true,true,true]=some (.tuple #[wordV (wX (rS E P K k)+signOf E P),.int .i64 24],some (.fact 0),cs6 E P (rS E P K k) (cs7 E P K k true (cs4 E P m (rS E P K k) true (cs2 E P m K k true false false)))):=by kernel_rfl
theorem round_big_f(E P m K k:Int):roundRun E P m K k [false,false,false,true,true]=some (.tuple #[wordV (ovW E P m false),.int .i64 20],some (.fact 0),cs5 E P m (cs1 E P m K k false true)):=by kernel_rfl
theorem round_ftt_o(E P m K k:Int):roundRun E P m K k [false,false,false,false,true,true,false,true]=some (.tuple #[wordV (ovW E P m false),.int .i64 20],some (.fact 0),cs5 E P m (cs4 E P m (rU E P K k) false (cs3 E P m K k false true))):=by kernel_rfl
theorem round_ftt_e(E P m K k:Int):roundRun E P m K k [false,false,false,false,true,true,true,false,true]=some (.tuple #[wordV (wX (rU E P K k)),.int .i64 0],some (.fact 0),cs6 E P (rU E P K k) ((rR E P K k !=0,false)::cs4 E P m (rU E P K k) true (cs3 E P m K k false true))):=by kernel_rfl
theorem round_ftt_i(E P m K k:Int):roundRun E P m K k [false,false,false,false,true,true,true,true,false,true]=some (.tuple #[wordV (wX (rU E P K k)),.int .i64 16],some (.fact 0),cs6 E P (rU E P K k) (cs7 E P K k false (cs4 E P m (rU E P K k) true (cs3 E P m K k false true)))):=by kernel_rfl
theorem round_ftt_t(E P m K k:Int):roundRun E P m K k [false,false,false,false,true,true,true,true,true,true]=some (.tuple #[wordV (wX (rU E P K k)),.int .i64 24],some (.fact 0),cs6 E P (rU E P K k) (cs7 E P K k true (cs4 E P m (rU E P K k) true (cs3 E P m K k false true)))):=by kernel_rfl
theorem round_ftf_o(E P m K k:Int):roundRun E P m K k [false,false,false,false,true,false,false,true]=some (.tuple #[wordV (ovW E P m false),.int .i64 20],some (.fact 0),cs5 E P m (cs4 E P m (rS E P K k) false (cs2 E P m K k false true false))):=by kernel_rfl
theorem round_ftf_e(E P m K k:Int):roundRun E P m K k [false,false,false,false,true,false,true,false,true]=some (.tuple #[wordV (wX (rS E P K k)),.int .i64 0],some (.fact 0),cs6 E P (rS E P K k) ((rR E P K k !=0,false)::cs4 E P m (rS E P K k) true (cs2 E P m K k false true false))):=by kernel_rfl
theorem round_ftf_i(E P m K k:Int):roundRun E P m K k [false,false,false,false,true,false,true,true,false,true]=some (.tuple #[wordV (wX (rS E P K k)),.int .i64 16],some (.fact 0),cs6 E P (rS E P K k) (cs7 E P K k false (cs4 E P m (rS E P K k) true (cs2 E P m K k false true false)))):=by kernel_rfl
theorem round_ftf_t(E P m K k:Int):roundRun E P m K k [false,false,false,false,true,false,true,true,true,true]=some (.tuple #[wordV (wX (rS E P K k)),.int .i64 24],some (.fact 0),cs6 E P (rS E P K k) (cs7 E P K k true (cs4 E P m (rS E P K k) true (cs2 E P m K k false true false)))):=by kernel_rfl
theorem round_fft_o(E P m K k:Int):roundRun E P m K k [false,false,false,false,false,true,false,true]=some (.tuple #[wordV (ovW E P m false),.int .i64 20],some (.fact 0),cs5 E P m (cs4 E P m (rU E P K k) false (cs3 E P m K k false false))):=by kernel_rfl
theorem round_fft_e(E P m K k:Int):roundRun E P m K k [false,false,false,false,false,true,true,false,true]=some (.tuple #[wordV (wX (rU E P K k)),.int .i64 0],some (.fact 0),cs6 E P (rU E P K k) ((rR E P K k !=0,false)::cs4 E P m (rU E P K k) true (cs3 E P m K k false false))):=by kernel_rfl
theorem round_fft_i(E P m K k:Int):roundRun E P m K k [false,false,false,false,false,true,true,true,false,true]=some (.tuple #[wordV (wX (rU E P K k)),.int .i64 16],some (.fact 0),cs6 E P (rU E P K k) (cs7 E P K k false (cs4 E P m (rU E P K k) true (cs3 E P m K k false false)))):=by kernel_rfl
theorem round_fft_t(E P m K k:Int):roundRun E P m K k [false,false,false,false,false,true,true,true,true,true]=some (.tuple #[wordV (wX (rU E P K k)),.int .i64 24],some (.fact 0),cs6 E P (rU E P K k) (cs7 E P K k true (cs4 E P m (rU E P K k) true (cs3 E P m K k false false)))):=by kernel_rfl
theorem round_fff_o(E P m K k:Int):roundRun E P m K k [false,false,false,false,false,false,false,true]=some (.tuple #[wordV (ovW E P m false),.int .i64 20],some (.fact 0),cs5 E P m (cs4 E P m (rS E P K k) false (cs2 E P m K k false false false))):=by kernel_rfl
theorem round_fff_e(E P m K k:Int):roundRun E P m K k [false,false,false,false,false,false,true,false,true]=some (.tuple #[wordV (wX (rS E P K k)),.int .i64 0],some (.fact 0),cs6 E P (rS E P K k) ((rR E P K k !=0,false)::cs4 E P m (rS E P K k) true (cs2 E P m K k false false false))):=by kernel_rfl
theorem round_fff_i(E P m K k:Int):roundRun E P m K k [false,false,false,false,false,false,true,true,false,true]=some (.tuple #[wordV (wX (rS E P K k)),.int .i64 16],some (.fact 0),cs6 E P (rS E P K k) (cs7 E P K k false (cs4 E P m (rS E P K k) true (cs2 E P m K k false false false)))):=by kernel_rfl
theorem round_fff_t(E P m K k:Int):roundRun E P m K k [false,false,false,false,false,false,true,true,true,true]=some (.tuple #[wordV (wX (rS E P K k)),.int .i64 24],some (.fact 0),cs6 E P (rS E P K k) (cs7 E P K k true (cs4 E P m (rS E P K k) true (cs2 E P m K k false false false)))):=by kernel_rfl
end Go.Proofs.YtedhbbjlbgpafaaGreatDoor
