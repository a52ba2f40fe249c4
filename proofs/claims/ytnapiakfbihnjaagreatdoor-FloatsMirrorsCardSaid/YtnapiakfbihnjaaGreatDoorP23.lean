/-
  What a number is in steps; which way a rest goes; the mode of a size; by runs with unknown numbers.
-/
import Derived.Test.YtnapiakfbihnjaaGreatDoorP22
set_option linter.unusedVariables false
set_option linter.unusedSimpArgs false
set_option maxRecDepth 1000000
namespace Go.Proofs.YtnapiakfbihnjaaGreatDoor
open Go.RowKit Go.Shelf Go.Canon Tryz
def Ai:CF→St→Option (Value×St):=orElse asM (orElse JO (orElse aeS (orElse NT (orElse aeN qI))))
theorem xn:aN prog Ai:=aA aoi (aA Ja (aA aeT (aA LQ (aA aeO mr))))
def zt(K k s:Int)(odd int:Bool):L_:=
 let A:Int:=K.natAbs
 let D:=IntKind.i64.wrap (1-s)
 let e:=k+D
 let F:=lW A e
 let W:=F*2^(0:Int).toNat
 [(true,true),(wB (ae W)&&decide ((0:Int)≤1∧(1:Int)≤127),true),(Ep A e,int),(true,true),(decide (A<0)==decide (A<0),true),
  (bits BinOp.and IntKind.u64 (W%18446744073709551616) 1==1,odd),(true,true),(true,true),
  (decide ((0:Int)≤0∧0≤F*2^(0:Int).toNat∧F*2^(0:Int).toNat<2^124),true),(decide (F<0)==decide (F<0),true),
  (decide (-gz<A*2^e.toNat∧A*2^e.toNat<gz∧ -50000≤e),true),(decide (A<0)==decide (A<0),true),(true,true),
  (decide (inB A k∧ -20000≤D∧D≤20000),true),(decide (A<0)==decide (A<0),true),(true,true),(decide (K<0)==decide (K<0),true)]
def DL(K k s rest:Int):Value:=
 .tuple #[ae (wX (ae (lW K.natAbs (k+IntKind.i64.wrap (1-s))*2^(0:Int).toNat))/2^(1:Int).toNat),.int .i64 rest]
theorem ab6(K k s:Int):dJ prog TR Ai 1000 138 [.n K k,.v (.int .i64 s)] [false,false,true] 1=some (DL K k s 1,some (.fact 0),zt K k s false false):=by kernel_rfl
theorem ab7(K k s:Int):dJ prog TR Ai 1000 138 [.n K k,.v (.int .i64 s)] [false,true,true] 1=some (DL K k s 0,some (.fact 0),zt K k s false true):=by kernel_rfl
theorem ab8(K k s:Int):dJ prog TR Ai 1000 138 [.n K k,.v (.int .i64 s)] [true,false,true] 1=some (DL K k s 3,some (.fact 0),zt K k s true false):=by kernel_rfl
theorem acd(K k s:Int):dJ prog TR Ai 1000 138 [.n K k,.v (.int .i64 s)] [true,true,true] 1=some (DL K k s 2,some (.fact 0),zt K k s true true):=by kernel_rfl
def nU(m:Int)(odd:Bool)(r:Int):Bool:=
 if m=3 then r !=0 else if m=0 then(if r=2∧odd=false then false else decide (r≥2))else if m=1 then decide (r≥2)else false
noncomputable def ZL(m:Int)(odd:Bool)(r:Int):Bool:=
 match dJ prog TR KE 1000 143 [.v (.int .i64 m),.v (.bool odd),.v (.int .i64 r)] [] 1 with
 |some (.bool b,_,[])=>b==nU m odd r
 |_=>false
theorem aur:([0,1,2,3,4].all fun m=>[true,false].all fun o=>[0,1,2,3].all fun r=>ZL m o r)=true:=by kernel_rfl
theorem aut{m r:Int}(odd:Bool)(h0:0≤m)(h1:m≤4)(h2:0≤r)(h3:r≤3):dU prog TR 143 [.v (.int .i64 m),.v (.bool odd),.v (.int .i64 r)] ⟨none,.bool (nU m odd r)⟩:=by
 have h:=aur
 rw[List.all_eq_true]at h
 have hm:=h m (by simp;omega)
 rw[List.all_eq_true]at hm
 have ho:=hm odd (by cases odd<;>simp)
 rw[List.all_eq_true]at ho
 have hr:=ho r (by simp;omega)
 unfold ZL at hr
 split at hr
 ·rename_i b o hrun
  refine af (xC _) hrun (fun c hc=>by cases hc) (by simp) (fun x hx=>by simp at hx;rcases hx with rfl|rfl|rfl<;>rfl) ?_ rfl
  rw[eq_of_beq hr]
 ·cases hr
def upS(xs:List Ar):Option bP:=match xs with
 |[.v (.int .i64 m),.v (.bool o),.v (.int .i64 r)]=>some (⟨none,.bool (nU m o r)⟩:bP)
 |_=>none
def upP(xs:List Ar):Bool:=match xs with
 |[.v (.int .i64 m),.v (.bool _),.v (.int .i64 r)]=>decide (0≤m∧m≤4∧0≤r∧r≤3)
 |_=>false
def upO:CF→St→Option (Value×St):=bF 143 (aZ TR upP upS)
theorem afF:aN prog upO:=aP dH xP oh fun xs R h hp=>by
 unfold upS at h
 split at h
 ·injection h with h
  subst h
  unfold upP at hp
  obtain⟨h1,h2,h3,h4⟩:=of_decide_eq_true hp
  exact aut _ h1 h2 h3 h4
 ·cases h
def dm(m:Int)(neg:Bool):Int:=if neg=true then(if m=3 then 4 else if m=4 then 3 else m)else m
noncomputable def oJ(E P m:Int)(neg:Bool):Option (Value×Option gW×List (Bool×Bool)):=dJ prog TR KE 1000 135 [.v (ed E P m),.v (.bool neg)] [] 1
theorem afT(E P:Int)(neg:Bool):oJ E P 0 true=some (.int .i64 0,some (.fact 0),[])∧oJ E P 0 false=some (.int .i64 0,some (.fact 0),[]):=⟨by kernel_rfl,by kernel_rfl⟩
theorem afU(E P:Int)(neg:Bool):oJ E P 1 true=some (.int .i64 1,some (.fact 0),[])∧oJ E P 1 false=some (.int .i64 1,some (.fact 0),[]):=⟨by kernel_rfl,by kernel_rfl⟩
theorem afV(E P:Int)(neg:Bool):oJ E P 2 true=some (.int .i64 2,some (.fact 0),[])∧oJ E P 2 false=some (.int .i64 2,some (.fact 0),[]):=⟨by kernel_rfl,by kernel_rfl⟩
theorem afX(E P:Int)(neg:Bool):oJ E P 3 true=some (.int .i64 4,some (.fact 0),[])∧oJ E P 3 false=some (.int .i64 3,some (.fact 0),[]):=⟨by kernel_rfl,by kernel_rfl⟩
theorem afY(E P:Int)(neg:Bool):oJ E P 4 true=some (.int .i64 3,some (.fact 0),[])∧oJ E P 4 false=some (.int .i64 4,some (.fact 0),[]):=⟨by kernel_rfl,by kernel_rfl⟩
theorem ai8{E P m:Int}(neg:Bool)(h0:0≤m)(h1:m≤4):dU prog TR 135 [.v (ed E P m),.v (.bool neg)] ⟨none,.int .i64 (dm m neg)⟩:=by
 have g: ∀m,∀x,Ar.v x∈ [Ar.v (ed E P m),.v (.bool neg)]→ground 9 x=true:=fun m x hx=>by
  simp at hx;rcases hx with rfl|rfl<;>rfl
 have fin: ∀{m v:Int},oJ E P m neg=some (.int .i64 v,some (.fact 0),[])→v=dm m neg→dU prog TR 135 [.v (ed E P m),.v (.bool neg)] ⟨none,.int .i64 (dm m neg)⟩:=fun h e=>
  af (xC _) h (fun c hc=>by cases hc) (by simp) (g _) (by rw[e]) rfl
 rcases(show m=0∨m=1∨m=2∨m=3∨m=4 by omega)with rfl|rfl|rfl|rfl|rfl<;>cases neg
 ·exact fin (afT E P true).2 rfl
 ·exact fin (afT E P true).1 rfl
 ·exact fin (afU E P true).2 rfl
 ·exact fin (afU E P true).1 rfl
 ·exact fin (afV E P true).2 rfl
 ·exact fin (afV E P true).1 rfl
 ·exact fin (afX E P true).2 rfl
 ·exact fin (afX E P true).1 rfl
 ·exact fin (afY E P true).2 rfl
 ·exact fin (afY E P true).1 rfl
def am1(xs:List Ar):Option bP:=match xs with
 |[.v a,.v (.bool b)]=>match iw a with
  |some (_,_,m)=>some (⟨none,.int .i64 (dm m b)⟩:bP)
  |none=>none
 |_=>none
def am3(xs:List Ar):Bool:=match xs with
 |[.v a,.v (.bool _)]=>match iw a with
  |some (_,_,m)=>decide (0≤m∧m≤4)
  |none=>false
 |_=>false
def QN:CF→St→Option (Value×St):=bF 135 (aZ TR am3 am1)
theorem JS:aN prog QN:=aP dH xP oh fun xs R h hp=>by
 unfold am1 at h
 split at h
 ·split at h
  ·rename_i hm
   injection h with h
   subst h
   unfold am3 at hp
   simp only[hm]at hp
   rw[jw hm]
   exact ai8 _ (of_decide_eq_true hp).1 (of_decide_eq_true hp).2
  ·cases h
 ·cases h
theorem ag(X:Int):wX (ae X)=X:=by
 show X/18446744073709551616*18446744073709551616+X%18446744073709551616=X
 omega
theorem dh{X:Int}(h0:0≤X)(h1:X<aW):wB (ae X)=true:=by
 rw[jm]at h1
 show decide (0≤X/18446744073709551616∧X/18446744073709551616<18446744073709551616∧0≤X%18446744073709551616∧X%18446744073709551616<18446744073709551616)=true
 exact decide_eq_true ⟨by omega,by omega,by omega,by omega⟩
def JW:CF→St→Option (Value×St):=orElse nK (orElse QN (orElse aby (orElse LP ru)))
theorem zu:aN prog JW:=aA lG (aA JS (aA NS (aA GM nM)))
def kR(E P m:Int)(neg:Bool):Int:=(if dm m neg=2∨dm m neg=4 then aB E P-1 else aB E P)+(if neg=true then ai E P else 0)
theorem wJ(E P m:Int)(b:Bool): ∀x,Ar.v x∈ [Ar.v (ed E P m),.v (.bool b)]→ground 9 x=true:=fun x hx=>by
 simp at hx;rcases hx with rfl|rfl<;>rfl
theorem ace(E P m:Int):dJ prog TR JW 1000 137 [.v (ed E P m),.v (.bool true)] [true,true] 1=
 some (.tuple #[ae (wX (ae ((wX (ae (aB E P))-wX (ae 1))%aW))+ai E P),.int .i64 20],some (.fact 0),[(true,true),(decide (aG E P)&&(wB (ae ((wX (ae (aB E P))-wX (ae 1))%aW))&&decide (wX (ae ((wX (ae (aB E P))-wX (ae 1))%aW))<ai E P)),true),(true,true),(wB (ae (aB E P))&&wB (ae 1),true),(true,true),(dm m true==2,true),(decide (0≤m∧m≤4),true),(true,true),(decide (aG E P),true)]):=by kernel_rfl
theorem acf(E P m:Int):dJ prog TR JW 1000 137 [.v (ed E P m),.v (.bool true)] [false,true,true] 1=
 some (.tuple #[ae (wX (ae ((wX (ae (aB E P))-wX (ae 1))%aW))+ai E P),.int .i64 20],some (.fact 0),[(true,true),(decide (aG E P)&&(wB (ae ((wX (ae (aB E P))-wX (ae 1))%aW))&&decide (wX (ae ((wX (ae (aB E P))-wX (ae 1))%aW))<ai E P)),true),(true,true),(wB (ae (aB E P))&&wB (ae 1),true),(true,true),(dm m true==4,true),(dm m true==2,false),(decide (0≤m∧m≤4),true),(true,true),(decide (aG E P),true)]):=by kernel_rfl
theorem acg(E P m:Int):dJ prog TR JW 1000 137 [.v (ed E P m),.v (.bool true)] [false,false,true] 1=
 some (.tuple #[ae (wX (ae (aB E P))+ai E P),.int .i64 20],some (.fact 0),[(true,true),(decide (aG E P)&&(wB (ae (aB E P))&&decide (wX (ae (aB E P))<ai E P)),true),(dm m true==4,false),(dm m true==2,false),(decide (0≤m∧m≤4),true),(true,true),(decide (aG E P),true)]):=by kernel_rfl
theorem XF(E P m:Int):dJ prog TR JW 1000 137 [.v (ed E P m),.v (.bool false)] [true,true] 1=
 some (.tuple #[ae (wX (ae ((wX (ae (aB E P))-wX (ae 1))%aW))),.int .i64 20],some (.fact 0),[(true,true),(decide (aG E P)&&(wB (ae ((wX (ae (aB E P))-wX (ae 1))%aW))&&decide (wX (ae ((wX (ae (aB E P))-wX (ae 1))%aW))<ai E P)),true),(true,true),(wB (ae (aB E P))&&wB (ae 1),true),(true,true),(dm m false==2,true),(decide (0≤m∧m≤4),true),(true,true),(decide (aG E P),true)]):=by kernel_rfl
theorem XG(E P m:Int):dJ prog TR JW 1000 137 [.v (ed E P m),.v (.bool false)] [false,true,true] 1=
 some (.tuple #[ae (wX (ae ((wX (ae (aB E P))-wX (ae 1))%aW))),.int .i64 20],some (.fact 0),[(true,true),(decide (aG E P)&&(wB (ae ((wX (ae (aB E P))-wX (ae 1))%aW))&&decide (wX (ae ((wX (ae (aB E P))-wX (ae 1))%aW))<ai E P)),true),(true,true),(wB (ae (aB E P))&&wB (ae 1),true),(true,true),(dm m false==4,true),(dm m false==2,false),(decide (0≤m∧m≤4),true),(true,true),(decide (aG E P),true)]):=by kernel_rfl
theorem XH(E P m:Int):dJ prog TR JW 1000 137 [.v (ed E P m),.v (.bool false)] [false,false,true] 1=
 some (.tuple #[ae (wX (ae (aB E P))),.int .i64 20],some (.fact 0),[(true,true),(decide (aG E P)&&(wB (ae (aB E P))&&decide (wX (ae (aB E P))<ai E P)),true),(dm m false==4,false),(dm m false==2,false),(decide (0≤m∧m≤4),true),(true,true),(decide (aG E P),true)]):=by kernel_rfl
theorem apz{E P m:Int}(neg:Bool)(h:aG E P)(h0:0≤m)(h1:m≤4):dU prog TR 137 [.v (ed E P m),.v (.bool neg)] ⟨none,.tuple #[ae (kR E P m neg),.int .i64 20]⟩:=by
 have hi:=dR h
 have hs:=dV h
 have e1:(aB E P-1)%aW=aB E P-1:=Int.emod_eq_of_lt (by omega) (by omega)
 have b0:wB (ae (aB E P))=true:=dh (by omega) (by omega)
 have b1:wB (ae 1)=true:=dh (by omega) (by rw[jm];omega)
 have b2:wB (ae (aB E P-1))=true:=dh (by omega) (by omega)
 have l0:aB E P<ai E P:=hi.2.1
 have l1:aB E P-1<ai E P:=by omega
 cases neg
 ·by_cases c2:dm m false=2
  ·refine af zu (XF E P m) (by simp[h,h0,h1,c2,ag,e1,b0,b1,b2,l1]) (by simp) (wJ E P m _) ?_ rfl
   simp[kR,c2,ag,e1]
  ·by_cases c4:dm m false=4
   ·refine af zu (XG E P m) (by simp[h,h0,h1,c2,c4,ag,e1,b0,b1,b2,l1]) (by simp) (wJ E P m _) ?_ rfl
    simp[kR,c4,ag,e1]
   ·refine af zu (XH E P m) (by simp[h,h0,h1,c2,c4,ag,b0,l0]) (by simp) (wJ E P m _) ?_ rfl
    simp[kR,c2,c4,ag]
 ·by_cases c2:dm m true=2
  ·refine af zu (ace E P m) (by simp[h,h0,h1,c2,ag,e1,b0,b1,b2,l1]) (by simp) (wJ E P m _) ?_ rfl
   simp[kR,c2,ag,e1]
  ·by_cases c4:dm m true=4
   ·refine af zu (acf E P m) (by simp[h,h0,h1,c2,c4,ag,e1,b0,b1,b2,l1]) (by simp) (wJ E P m _) ?_ rfl
    simp[kR,c4,ag,e1]
   ·refine af zu (acg E P m) (by simp[h,h0,h1,c2,c4,ag,b0,l0]) (by simp) (wJ E P m _) ?_ rfl
    simp[kR,c2,c4,ag]
def auv(xs:List Ar):Option bP:=match xs with
 |[.v a,.v (.bool b)]=>match iw a with
  |some (E,P,m)=>some (⟨none,.tuple #[ae (kR E P m b),.int .i64 20]⟩:bP)
  |none=>none
 |_=>none
def auw(xs:List Ar):Bool:=match xs with
 |[.v a,.v (.bool _)]=>match iw a with
  |some (E,P,m)=>decide (aG E P)&&decide (0≤m∧m≤4)
  |none=>false
 |_=>false
def aiz:CF→St→Option (Value×St):=bF 137 (aZ TR auw auv)
theorem ZE:aN prog aiz:=aP dH xP oh fun xs R h hp=>by
 unfold auv at h
 split at h
 ·split at h
  ·rename_i hm
   injection h with h
   subst h
   unfold auw at hp
   simp only[hm,Bool.and_eq_true]at hp
   rw[jw hm]
   have h2:=of_decide_eq_true hp.2
   exact apz _ (of_decide_eq_true hp.1) h2.1 h2.2
  ·cases h
 ·cases h
def Ci(A e:Int):Int:=(if lW A e%2=1 then 2 else 0)+(if Ep A e=true then 0 else 1)
def zx(K k s:Int):Prop:=inB K k∧ -20000≤1-s∧1-s≤20000∧ -50000≤k+(1-s)∧(K.natAbs:Int)*2^(k+(1-s)).toNat<gz∧lW K.natAbs (k+(1-s))<2^124
instance (K k s:Int):Decidable (zx K k s):=by unfold zx;infer_instance
theorem XI{K k s:Int}(h:zx K k s):dU prog TR 138 [.n K k,.v (.int .i64 s)] ⟨none,.tuple #[ae (lW K.natAbs (k+(1-s))/2),.int .i64 (Ci K.natAbs (k+(1-s)))]⟩:=by
 obtain⟨hb,h1,h2,h3,h4,h5⟩:=h
 have hw:IntKind.i64.wrap (1-s)=1-s:=nC (by omega)
 have hA:(0:Int)≤K.natAbs:=by omega
 have hbA:inB (K.natAbs:Int) k:=by obtain⟨a,b,c,d⟩:=hb;exact⟨by omega,by omega,c,d⟩
 have hm:0≤(K.natAbs:Int)*2^(k+(1-s)).toNat:=Int.mul_nonneg hA (Int.le_of_lt (au _))
 have hF:0≤lW K.natAbs (k+(1-s)):=Int.ediv_nonneg hm (Int.le_of_lt (au _))
 have hs: -gz<(K.natAbs:Int)*2^(k+(1-s)).toNat:=by have:(0:Int)<gz:=au _;omega
 have g: ∀x,Ar.v x∈ [Ar.n K k,.v (.int .i64 s)]→ground 9 x=true:=fun x hx=>by simp at hx;subst hx;rfl
 have e0:(2:Int)^(0:Int).toNat=1:=rfl
 have e1:(2:Int)^(1:Int).toNat=2:=rfl
 have aiy:(2:Int)^124=21267647932558653966460912964485513216:=by decide
 generalize hFd:lW K.natAbs (k+(1-s))=F at*
 have hbit:bits BinOp.and IntKind.u64 (F%18446744073709551616) 1=F%2:=by
  rw[and_one_u64 _ (by omega) (by omega)];omega
 have hwb:wB (ae F)=true:=dh hF (by rw[jm];omega)
 have h5':F<21267647932558653966460912964485513216:=by omega
 have key: ∀odd int:Bool,(F%2==1)=odd→Ep K.natAbs (k+(1-s))=int→ ∀c∈zt K k s odd int,c.1=c.2:=by
  intro odd int ho hi
  unfold zt
  simp only[hw,hFd,e0,Int.mul_one,hbit]
  simp[ho,hi,hbA,h1,h2,hs,h4,h3,hF,h5',hwb]
 have val: ∀r,DL K k s r=.tuple #[ae (F/2),.int .i64 r]:=by
  intro r
  unfold DL
  simp only[hw,hFd,e0,e1,Int.mul_one,ag]
 have rest:Ci K.natAbs (k+(1-s))=(if F%2=1 then 2 else 0)+(if Ep K.natAbs (k+(1-s))=true then 0 else 1):=by unfold Ci;rw[hFd]
 cases ho:(F%2==1)
 ·have ho': ¬F%2=1:=by simpa using ho
  cases hi:Ep K.natAbs (k+(1-s))
  ·refine af xn (ab6 K k s) (key _ _ ho hi) (by simp) g ?_ rfl
   rw[val,rest,hi,if_neg ho'];rfl
  ·refine af xn (ab7 K k s) (key _ _ ho hi) (by simp) g ?_ rfl
   rw[val,rest,hi,if_neg ho'];rfl
 ·have ho':F%2=1:=by simpa using ho
  cases hi:Ep K.natAbs (k+(1-s))
  ·refine af xn (ab8 K k s) (key _ _ ho hi) (by simp) g ?_ rfl
   rw[val,rest,hi,if_pos ho'];rfl
  ·refine af xn (acd K k s) (key _ _ ho hi) (by simp) g ?_ rfl
   rw[val,rest,hi,if_pos ho'];rfl
def WL(xs:List Ar):Option bP:=match xs with
 |[.n K k,.v (.int .i64 s)]=>some (⟨none,.tuple #[ae (lW K.natAbs (k+(1-s))/2),.int .i64 (Ci K.natAbs (k+(1-s)))]⟩:bP)
 |_=>none
def WM(xs:List Ar):Bool:=match xs with
 |[.n K k,.v (.int .i64 s)]=>decide (zx K k s)
 |_=>false
def WN:CF→St→Option (Value×St):=bF 138 (aZ TR WM WL)
theorem XJ:aN prog WN:=aP dH xP oh fun xs R h hp=>by
 unfold WL at h
 split at h
 ·injection h with h
  subst h
  unfold WM at hp
  exact XI (of_decide_eq_true hp)
 ·cases h
end Go.Proofs.YtnapiakfbihnjaaGreatDoor
namespace Go.Proofs.YtnapiakfbihnjaaGreatDoor
open Go.RowKit Go.Shelf Go.Canon
def afZ:CF→St→Option (Value×St):=orElse ah2 (orElse La (orElse QN (orElse abz (orElse aiz (orElse amX (orElse WN (orElse Dz (orElse QM (orElse abx (orElse upO (orElse aby (orElse nK (orElse QL ru)))))))))))))
theorem cZ:aN Tryz.prog afZ:=aA Y9 (aA Eh (aA JS (aA U8 (aA ZE (aA aiI (aA XJ (aA yO (aA JM (aA U4 (aA afF (aA NS (aA lG (aA JL nM)))))))))))))
def rD(E P K k:Int):Int:=lW K.natAbs (k+(1-stepOf E P K k))/2
def rR(E P K k:Int):Int:=Ci K.natAbs (k+(1-stepOf E P K k))
def rT(E K k:Int):Int:=IntKind.u64.wrap (if 0>IntKind.i64.wrap (eu K k-(1-aH E))then 0 else IntKind.i64.wrap (eu K k-(1-aH E)))
def rL(E P K k:Int):Value:=ae (wX (.agg #[.int .u64 0,.int .u64 (rT E K k)])*2^(IntKind.i64.wrap (P-1)).toNat%aW)
def rS(E P K k:Int):Value:=ae ((wX (rL E P K k)+wX (ae (rD E P K k)))%aW)
def rU(E P K k:Int):Value:=ae ((wX (rS E P K k)+wX (ae 1))%aW)
def cs0(K k:Int)(z:Bool):L_:=[(mf K !=0,z),(decide (inB K k),T_),(decide (K<0)==decide (K<0),T_)]
def cs1(E P m K k:Int)(neg big:Bool):L_:=
 (decide (eu K k>aH E),big)::(decide (aG E P),true)::(decide (0≤m∧m≤4),true)::(decide (pV K<0),neg)::(true,true)::(decide (K<0)==decide (K<0),true)::
  (decide (pV K<0),neg)::(true,true)::(decide (K<0)==decide (K<0),true)::cs0 K k false
def cs2(E P m K k:Int)(neg odd up:Bool):L_:=
 (nU (dm m neg) odd (rR E P K k),up)::(decide (0≤dm m neg∧dm m neg≤4∧0≤rR E P K k∧rR E P K k≤3),true)::(bits BinOp.and IntKind.u64 (rD E P K k%18446744073709551616) 1==1,odd)::(true,true)::
  (true,true)::(wB (rL E P K k)&&wB (ae (rD E P K k)),true)::(wB (.agg #[.int .u64 0,.int .u64 (rT E K k)])&&decide (0≤IntKind.i64.wrap (P-1)∧IntKind.i64.wrap (P-1)≤127),true)::(true,true)::(decide (aG E P),true)::
  (true,true)::(decide (zx K k (stepOf E P K k)),true)::(decide (K<0)==decide (K<0),true)::(decide (aG E P)&&decide (inB K k),true)::(decide (K<0)==decide (K<0),true)::cs1 E P m K k neg false
def cs3(E P m K k:Int)(neg odd:Bool):L_:=t_::(wB (rS E P K k)&&wB (ae 1),T_)::t_::cs2 E P m K k neg odd true
def dW(E P m:Int)(s:Value)(lt:Bool)(l:List (Bool×Bool)):L_:=(decide (wX s<wX (ae (aB E P))),lt)::(wB s&&wB (ae (aB E P)),T_)::(decide (aG E P),T_)::l
def qA(E P m:Int)(l:List (Bool×Bool)):L_:=t_::(decide (aG E P)&&decide (0≤m∧m≤4),T_)::l
def iR(E P:Int)(s:Value)(l:List (Bool×Bool)):L_:=t_::(decide (aG E P)&&(wB s&&decide (wX s<ai E P)),T_)::l
def cs7(E P K k:Int)(tiny:Bool)(l:List (Bool×Bool)):L_:=(decide (eu K k<1-aH E),tiny)::(decide (aG E P),T_)::(rR E P K k !=0,T_)::l
noncomputable def dB(E P m K k:Int)(an:List Bool):Option (Value×Option gW×List (Bool×Bool)):=dJ Tryz.prog TR afZ 1000 72 [.v (ed E P m),.n K k] an 1
theorem ach(E P m K k:Int):dB E P m K k [true,true]=some (.tuple #[.agg #[.int .u64 0,.int .u64 0],.int .i64 0],some (.fact 0),(true,true)::cs0 K k true):=by kernel_rfl
theorem XK(E P m K k:Int):dB E P m K k [F_,T_,T_,T_,T_]=some (.tuple #[ae (kR E P m true),.int .i64 20],some (.fact 0),qA E P m (cs1 E P m K k true true)):=by kernel_rfl
theorem XL(E P m K k:Int):dB E P m K k [F_,T_,T_,F_,T_,T_,F_,T_]=some (.tuple #[ae (kR E P m true),.int .i64 20],some (.fact 0),qA E P m (dW E P m (rU E P K k) false (cs3 E P m K k true true))):=by kernel_rfl
theorem XM(E P m K k:Int):dB E P m K k [F_,T_,T_,F_,T_,T_,T_,F_,T_]=some (.tuple #[ae (wX (rU E P K k)+ai E P),.int .i64 0],some (.fact 0),iR E P (rU E P K k) ((rR E P K k !=0,false)::dW E P m (rU E P K k) true (cs3 E P m K k true true))):=by kernel_rfl
theorem XN(E P m K k:Int):dB E P m K k [F_,T_,T_,F_,T_,T_,T_,T_,F_,T_]=some (.tuple #[ae (wX (rU E P K k)+ai E P),.int .i64 16],some (.fact 0),iR E P (rU E P K k) (cs7 E P K k false (dW E P m (rU E P K k) true (cs3 E P m K k true true)))):=by kernel_rfl
theorem XO(E P m K k:Int):dB E P m K k [F_,T_,T_,F_,T_,T_,T_,T_,T_,T_]=some (.tuple #[ae (wX (rU E P K k)+ai E P),.int .i64 24],some (.fact 0),iR E P (rU E P K k) (cs7 E P K k true (dW E P m (rU E P K k) true (cs3 E P m K k true true)))):=by kernel_rfl
theorem XP(E P m K k:Int):dB E P m K k [F_,T_,T_,F_,T_,F_,F_,T_]=some (.tuple #[ae (kR E P m true),.int .i64 20],some (.fact 0),qA E P m (dW E P m (rS E P K k) false (cs2 E P m K k true true false))):=by kernel_rfl
theorem XQ(E P m K k:Int):dB E P m K k [F_,T_,T_,F_,T_,F_,T_,F_,T_]=some (.tuple #[ae (wX (rS E P K k)+ai E P),.int .i64 0],some (.fact 0),iR E P (rS E P K k) ((rR E P K k !=0,false)::dW E P m (rS E P K k) true (cs2 E P m K k true true false))):=by kernel_rfl
theorem XR(E P m K k:Int):dB E P m K k [F_,T_,T_,F_,T_,F_,T_,T_,F_,T_]=some (.tuple #[ae (wX (rS E P K k)+ai E P),.int .i64 16],some (.fact 0),iR E P (rS E P K k) (cs7 E P K k false (dW E P m (rS E P K k) true (cs2 E P m K k true true false)))):=by kernel_rfl
theorem XT(E P m K k:Int):dB E P m K k [F_,T_,T_,F_,T_,F_,T_,T_,T_,T_]=some (.tuple #[ae (wX (rS E P K k)+ai E P),.int .i64 24],some (.fact 0),iR E P (rS E P K k) (cs7 E P K k true (dW E P m (rS E P K k) true (cs2 E P m K k true true false)))):=by kernel_rfl
theorem XU(E P m K k:Int):dB E P m K k [F_,T_,T_,F_,F_,T_,F_,T_]=some (.tuple #[ae (kR E P m true),.int .i64 20],some (.fact 0),qA E P m (dW E P m (rU E P K k) false (cs3 E P m K k true false))):=by kernel_rfl
theorem XV(E P m K k:Int):dB E P m K k [F_,T_,T_,F_,F_,T_,T_,F_,T_]=some (.tuple #[ae (wX (rU E P K k)+ai E P),.int .i64 0],some (.fact 0),iR E P (rU E P K k) ((rR E P K k !=0,false)::dW E P m (rU E P K k) true (cs3 E P m K k true false))):=by kernel_rfl
theorem XW(E P m K k:Int):dB E P m K k [F_,T_,T_,F_,F_,T_,T_,T_,F_,T_]=some (.tuple #[ae (wX (rU E P K k)+ai E P),.int .i64 16],some (.fact 0),iR E P (rU E P K k) (cs7 E P K k false (dW E P m (rU E P K k) true (cs3 E P m K k true false)))):=by kernel_rfl
theorem XX(E P m K k:Int):dB E P m K k [F_,T_,T_,F_,F_,T_,T_,T_,T_,T_]=some (.tuple #[ae (wX (rU E P K k)+ai E P),.int .i64 24],some (.fact 0),iR E P (rU E P K k) (cs7 E P K k true (dW E P m (rU E P K k) true (cs3 E P m K k true false)))):=by kernel_rfl
theorem XY(E P m K k:Int):dB E P m K k [F_,T_,T_,F_,F_,F_,F_,T_]=some (.tuple #[ae (kR E P m true),.int .i64 20],some (.fact 0),qA E P m (dW E P m (rS E P K k) false (cs2 E P m K k true false false))):=by kernel_rfl
theorem XZ(E P m K k:Int):dB E P m K k [F_,T_,T_,F_,F_,F_,T_,F_,T_]=some (.tuple #[ae (wX (rS E P K k)+ai E P),.int .i64 0],some (.fact 0),iR E P (rS E P K k) ((rR E P K k !=0,false)::dW E P m (rS E P K k) true (cs2 E P m K k true false false))):=by kernel_rfl
theorem X3(E P m K k:Int):dB E P m K k [F_,T_,T_,F_,F_,F_,T_,T_,F_,T_]=some (.tuple #[ae (wX (rS E P K k)+ai E P),.int .i64 16],some (.fact 0),iR E P (rS E P K k) (cs7 E P K k false (dW E P m (rS E P K k) true (cs2 E P m K k true false false)))):=by kernel_rfl
theorem X4(E P m K k:Int):dB E P m K k [F_,T_,T_,F_,F_,F_,T_,T_,T_,T_]=some (.tuple #[ae (wX (rS E P K k)+ai E P),.int .i64 24],some (.fact 0),iR E P (rS E P K k) (cs7 E P K k true (dW E P m (rS E P K k) true (cs2 E P m K k true false false)))):=by kernel_rfl
theorem X5(E P m K k:Int):dB E P m K k [F_,F_,F_,T_,T_]=some (.tuple #[ae (kR E P m false),.int .i64 20],some (.fact 0),qA E P m (cs1 E P m K k false true)):=by kernel_rfl
theorem X6(E P m K k:Int):dB E P m K k [F_,F_,F_,F_,T_,T_,F_,T_]=some (.tuple #[ae (kR E P m false),.int .i64 20],some (.fact 0),qA E P m (dW E P m (rU E P K k) false (cs3 E P m K k false true))):=by kernel_rfl
theorem X7(E P m K k:Int):dB E P m K k [F_,F_,F_,F_,T_,T_,T_,F_,T_]=some (.tuple #[ae (wX (rU E P K k)),.int .i64 0],some (.fact 0),iR E P (rU E P K k) ((rR E P K k !=0,false)::dW E P m (rU E P K k) true (cs3 E P m K k false true))):=by kernel_rfl
theorem X8(E P m K k:Int):dB E P m K k [F_,F_,F_,F_,T_,T_,T_,T_,F_,T_]=some (.tuple #[ae (wX (rU E P K k)),.int .i64 16],some (.fact 0),iR E P (rU E P K k) (cs7 E P K k false (dW E P m (rU E P K k) true (cs3 E P m K k false true)))):=by kernel_rfl
theorem X9(E P m K k:Int):dB E P m K k [F_,F_,F_,F_,T_,T_,T_,T_,T_,T_]=some (.tuple #[ae (wX (rU E P K k)),.int .i64 24],some (.fact 0),iR E P (rU E P K k) (cs7 E P K k true (dW E P m (rU E P K k) true (cs3 E P m K k false true)))):=by kernel_rfl
theorem Ya(E P m K k:Int):dB E P m K k [F_,F_,F_,F_,T_,F_,F_,T_]=some (.tuple #[ae (kR E P m false),.int .i64 20],some (.fact 0),qA E P m (dW E P m (rS E P K k) false (cs2 E P m K k false true false))):=by kernel_rfl
theorem Yb(E P m K k:Int):dB E P m K k [F_,F_,F_,F_,T_,F_,T_,F_,T_]=some (.tuple #[ae (wX (rS E P K k)),.int .i64 0],some (.fact 0),iR E P (rS E P K k) ((rR E P K k !=0,false)::dW E P m (rS E P K k) true (cs2 E P m K k false true false))):=by kernel_rfl
theorem Yc(E P m K k:Int):dB E P m K k [F_,F_,F_,F_,T_,F_,T_,T_,F_,T_]=some (.tuple #[ae (wX (rS E P K k)),.int .i64 16],some (.fact 0),iR E P (rS E P K k) (cs7 E P K k false (dW E P m (rS E P K k) true (cs2 E P m K k false true false)))):=by kernel_rfl
theorem Yd(E P m K k:Int):dB E P m K k [F_,F_,F_,F_,T_,F_,T_,T_,T_,T_]=some (.tuple #[ae (wX (rS E P K k)),.int .i64 24],some (.fact 0),iR E P (rS E P K k) (cs7 E P K k true (dW E P m (rS E P K k) true (cs2 E P m K k false true false)))):=by kernel_rfl
theorem Ye(E P m K k:Int):dB E P m K k [F_,F_,F_,F_,F_,T_,F_,T_]=some (.tuple #[ae (kR E P m false),.int .i64 20],some (.fact 0),qA E P m (dW E P m (rU E P K k) false (cs3 E P m K k false false))):=by kernel_rfl
theorem Yf(E P m K k:Int):dB E P m K k [F_,F_,F_,F_,F_,T_,T_,F_,T_]=some (.tuple #[ae (wX (rU E P K k)),.int .i64 0],some (.fact 0),iR E P (rU E P K k) ((rR E P K k !=0,false)::dW E P m (rU E P K k) true (cs3 E P m K k false false))):=by kernel_rfl
theorem Yg(E P m K k:Int):dB E P m K k [F_,F_,F_,F_,F_,T_,T_,T_,F_,T_]=some (.tuple #[ae (wX (rU E P K k)),.int .i64 16],some (.fact 0),iR E P (rU E P K k) (cs7 E P K k false (dW E P m (rU E P K k) true (cs3 E P m K k false false)))):=by kernel_rfl
theorem Yh(E P m K k:Int):dB E P m K k [F_,F_,F_,F_,F_,T_,T_,T_,T_,T_]=some (.tuple #[ae (wX (rU E P K k)),.int .i64 24],some (.fact 0),iR E P (rU E P K k) (cs7 E P K k true (dW E P m (rU E P K k) true (cs3 E P m K k false false)))):=by kernel_rfl
theorem Yi(E P m K k:Int):dB E P m K k [F_,F_,F_,F_,F_,F_,F_,T_]=some (.tuple #[ae (kR E P m false),.int .i64 20],some (.fact 0),qA E P m (dW E P m (rS E P K k) false (cs2 E P m K k false false false))):=by kernel_rfl
theorem Yj(E P m K k:Int):dB E P m K k [F_,F_,F_,F_,F_,F_,T_,F_,T_]=some (.tuple #[ae (wX (rS E P K k)),.int .i64 0],some (.fact 0),iR E P (rS E P K k) ((rR E P K k !=0,false)::dW E P m (rS E P K k) true (cs2 E P m K k false false false))):=by kernel_rfl
theorem Yk(E P m K k:Int):dB E P m K k [F_,F_,F_,F_,F_,F_,T_,T_,F_,T_]=some (.tuple #[ae (wX (rS E P K k)),.int .i64 16],some (.fact 0),iR E P (rS E P K k) (cs7 E P K k false (dW E P m (rS E P K k) true (cs2 E P m K k false false false)))):=by kernel_rfl
theorem Yl(E P m K k:Int):dB E P m K k [F_,F_,F_,F_,F_,F_,T_,T_,T_,T_]=some (.tuple #[ae (wX (rS E P K k)),.int .i64 24],some (.fact 0),iR E P (rS E P K k) (cs7 E P K k true (dW E P m (rS E P K k) true (cs2 E P m K k false false false)))):=by kernel_rfl
end Go.Proofs.YtnapiakfbihnjaaGreatDoor
