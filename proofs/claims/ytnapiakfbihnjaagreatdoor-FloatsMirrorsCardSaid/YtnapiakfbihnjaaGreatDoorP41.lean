/-
  Numbers with a divisor: the step, and what a number is in steps.
-/
import Derived.Test.YtnapiakfbihnjaaGreatDoorP40
import Derived.Test.YtnapiakfbihnjaaGreatDoorP23
set_option linter.unusedVariables false
set_option linter.unusedSimpArgs false
set_option maxRecDepth 1000000
namespace Go.Proofs.YtnapiakfbihnjaaGreatDoor
open Go.RowKit Go.Shelf Go.Canon Tryz
def jq(E P K D k:Int):Int:=if K=0 then az E P else(if 1-aH E>je K D k then 1-aH E else je K D k)-P+1
def Vt:CF→St→Option (Value×St):=orElse abR (orElse Iz Dz)
theorem Qg:aN prog Vt:=aA Vr (aA EU yO)
theorem afy(E P m K D k:Int):dJ prog TR Vt 1000 139 [.v (ed E P m),.q K D k] [false,true] 1=
 some (.int .i64 (IntKind.i64.wrap (IntKind.i64.wrap ((if 1-aH E>je K D k then 1-aH E else je K D k)-P)+1)),some (.fact 0),[(true,true),(decide (aG E P),true),(mf K !=0,false),(decide (fV K D k),true),(decide (K<0)==decide (K<0),true)]):=by kernel_rfl
theorem Xy(E P m K D k:Int):dJ prog TR Vt 1000 139 [.v (ed E P m),.q K D k] [true,true] 1=
 some (.int .i64 (az E P),some (.fact 0),[(decide (aG E P),true),(mf K !=0,true),(decide (fV K D k),true),(decide (K<0)==decide (K<0),true)]):=by kernel_rfl
theorem JR(E P m K D k:Int): ∀x,Ar.v x∈ [Ar.v (ed E P m),.q K D k]→ground 9 x=true:=fun x hx=>by
 simp at hx;subst hx;rfl
theorem afz{E P m K D k:Int}(h:aG E P)(hb:fV K D k):dU prog TR 139 [.v (ed E P m),.q K D k] ⟨none,.int .i64 (jq E P K D k)⟩:=by
 have hl:=Qb hb
 have hbr:=dN h.1 h.2.1
 have hf:=h
 obtain⟨f1,f2,f3,f4,f5⟩:=h
 by_cases h0:K=0
 ·subst h0
  refine af Qg (Xy E P m 0 D k) (by simp[hf,hb,mf]) (by simp) (JR E P m 0 D k) ?_ rfl
  unfold jq;rw[if_pos rfl]
 ·refine af Qg (afy E P m K D k) (by simp[hf,hb,mf,h0]) (by simp) (JR E P m K D k) ?_ rfl
  unfold jq;rw[if_neg h0]
  rw[nC (x:=(if 1-aH E>je K D k then 1-aH E else je K D k)-P) (by split<;>omega),nC (by split<;>omega)]
def afA(xs:List Ar):Option bP:=match xs with
 |[.v a,.q K D k]=>match iw a with
  |some (E,P,_)=>some (⟨none,.int .i64 (jq E P K D k)⟩:bP)
  |none=>none
 |_=>none
def afB(xs:List Ar):Bool:=match xs with
 |[.v a,.q K D k]=>match iw a with
  |some (E,P,_)=>decide (aG E P)&&decide (fV K D k)
  |none=>false
 |_=>false
def afC:CF→St→Option (Value×St):=bF 139 (aZ TR afB afA)
theorem afD:aN prog afC:=aP dH xP oh fun xs R h hp=>by
 unfold afA at h
 split at h
 ·split at h
  ·rename_i hm
   injection h with h
   subst h
   unfold afB at hp
   simp only[hm,Bool.and_eq_true]at hp
   rw[jw hm]
   exact afz (of_decide_eq_true hp.1) (of_decide_eq_true hp.2)
  ·cases h
 ·cases h
def xX:CF→St→Option (Value×St):=orElse amQ (orElse Qe (orElse Zl (orElse NT (orElse Zi qI))))
theorem vC:aN prog xX:=aA aix (aA Vs (aA abE (aA LQ (aA abD mr))))
def wI(K D k s:Int)(odd int:Bool):L_:=
 let A:Int:=K.natAbs
 let d:=IntKind.i64.wrap (1-s)
 let e:=k+d
 let F:=kZ A D e
 let W:=F*2^(0:Int).toNat
 [(true,true),(wB (ae W)&&decide ((0:Int)≤1∧(1:Int)≤127),true),(CP A D e,int),(true,true),(decide (A<0)==decide (A<0),true),
  (bits BinOp.and IntKind.u64 (W%18446744073709551616) 1==1,odd),(true,true),(true,true),
  (decide ((0:Int)≤0∧0≤F*2^(0:Int).toNat∧F*2^(0:Int).toNat<2^124),true),(decide (F<0)==decide (F<0),true),
  (decide (fV A D e),true),(decide (A<0)==decide (A<0),true),(true,true),
  (decide (fV A D k∧ -20000≤d∧d≤20000),true),(decide (A<0)==decide (A<0),true),(true,true),(decide (K<0)==decide (K<0),true)]
def zk(K D k s rest:Int):Value:=
 .tuple #[ae (wX (ae (kZ K.natAbs D (k+IntKind.i64.wrap (1-s))*2^(0:Int).toNat))/2^(1:Int).toNat),.int .i64 rest]
theorem Xz(K D k s:Int):dJ prog TR xX 1000 138 [.q K D k,.v (.int .i64 s)] [false,false,true] 1=some (zk K D k s 1,some (.fact 0),wI K D k s false false):=by kernel_rfl
theorem XA(K D k s:Int):dJ prog TR xX 1000 138 [.q K D k,.v (.int .i64 s)] [false,true,true] 1=some (zk K D k s 0,some (.fact 0),wI K D k s false true):=by kernel_rfl
theorem XB(K D k s:Int):dJ prog TR xX 1000 138 [.q K D k,.v (.int .i64 s)] [true,false,true] 1=some (zk K D k s 3,some (.fact 0),wI K D k s true false):=by kernel_rfl
theorem XC(K D k s:Int):dJ prog TR xX 1000 138 [.q K D k,.v (.int .i64 s)] [true,true,true] 1=some (zk K D k s 2,some (.fact 0),wI K D k s true true):=by kernel_rfl
def Cf(A D e:Int):Int:=(if kZ A D e%2=1 then 2 else 0)+(if CP A D e=true then 0 else 1)
theorem XD(A D e:Int):0≤Cf A D e∧Cf A D e≤3:=by unfold Cf;split<;>split<;>omega
def DK(K D k s:Int):Prop:=fV K D k∧ -20000≤1-s∧1-s≤20000∧fV K.natAbs D (k+(1-s))∧kZ K.natAbs D (k+(1-s))<2^124
instance (K D k s:Int):Decidable (DK K D k s):=by unfold DK;infer_instance
theorem Vu{K D k s:Int}(h:DK K D k s):dU prog TR 138 [.q K D k,.v (.int .i64 s)] ⟨none,.tuple #[ae (kZ K.natAbs D (k+(1-s))/2),.int .i64 (Cf K.natAbs D (k+(1-s)))]⟩:=by
 obtain⟨hb,h1,h2,h3,h5⟩:=h
 have hw:IntKind.i64.wrap (1-s)=1-s:=nC (by omega)
 have hA:(0:Int)≤K.natAbs:=by omega
 have hbA:fV (K.natAbs:Int) D k:=by obtain⟨a,b,c,d,e,f⟩:=hb;exact⟨by omega,by omega,c,d,e,f⟩
 have hF:0≤kZ K.natAbs D (k+(1-s)):=Int.ediv_nonneg (Int.mul_nonneg hA (Int.le_of_lt (au _))) (Int.le_of_lt (Int.mul_pos hb.2.2.1 (au _)))
 have g: ∀x,Ar.v x∈ [Ar.q K D k,.v (.int .i64 s)]→ground 9 x=true:=fun x hx=>by simp at hx;subst hx;rfl
 have e0:(2:Int)^(0:Int).toNat=1:=rfl
 have e1:(2:Int)^(1:Int).toNat=2:=rfl
 have aiy:(2:Int)^124=21267647932558653966460912964485513216:=by decide
 generalize hFd:kZ K.natAbs D (k+(1-s))=F at*
 have hbit:bits BinOp.and IntKind.u64 (F%18446744073709551616) 1=F%2:=by
  rw[and_one_u64 _ (by omega) (by omega)];omega
 have hwb:wB (ae F)=true:=dh hF (by rw[jm];omega)
 have h5':F<21267647932558653966460912964485513216:=by omega
 have key: ∀odd int:Bool,(F%2==1)=odd→CP K.natAbs D (k+(1-s))=int→ ∀c∈wI K D k s odd int,c.1=c.2:=by
  intro odd int ho hi
  unfold wI
  simp only[hw,hFd,e0,Int.mul_one,hbit]
  simp[ho,hi,hbA,h1,h2,h3,hF,h5',hwb]
 have val: ∀r,zk K D k s r=.tuple #[ae (F/2),.int .i64 r]:=by
  intro r
  unfold zk
  simp only[hw,hFd,e0,e1,Int.mul_one,ag]
 have rest:Cf K.natAbs D (k+(1-s))=(if F%2=1 then 2 else 0)+(if CP K.natAbs D (k+(1-s))=true then 0 else 1):=by unfold Cf;rw[hFd]
 cases ho:(F%2==1)
 ·have ho': ¬F%2=1:=by simpa using ho
  cases hi:CP K.natAbs D (k+(1-s))
  ·refine af vC (Xz K D k s) (key _ _ ho hi) (by simp) g ?_ rfl
   rw[val,rest,hi,if_neg ho'];rfl
  ·refine af vC (XA K D k s) (key _ _ ho hi) (by simp) g ?_ rfl
   rw[val,rest,hi,if_neg ho'];rfl
 ·have ho':F%2=1:=by simpa using ho
  cases hi:CP K.natAbs D (k+(1-s))
  ·refine af vC (XB K D k s) (key _ _ ho hi) (by simp) g ?_ rfl
   rw[val,rest,hi,if_pos ho'];rfl
  ·refine af vC (XC K D k s) (key _ _ ho hi) (by simp) g ?_ rfl
   rw[val,rest,hi,if_pos ho'];rfl
def Qh(xs:List Ar):Option bP:=match xs with
 |[.q K D k,.v (.int .i64 s)]=>some (⟨none,.tuple #[ae (kZ K.natAbs D (k+(1-s))/2),.int .i64 (Cf K.natAbs D (k+(1-s)))]⟩:bP)
 |_=>none
def Qi(xs:List Ar):Bool:=match xs with
 |[.q K D k,.v (.int .i64 s)]=>decide (DK K D k s)
 |_=>false
def Qj:CF→St→Option (Value×St):=bF 138 (aZ TR Qi Qh)
theorem Vw:aN prog Qj:=aP dH xP oh fun xs R h hp=>by
 unfold Qh at h
 split at h
 ·injection h with h
  subst h
  unfold Qi at hp
  exact Vu (of_decide_eq_true hp)
 ·cases h
end Go.Proofs.YtnapiakfbihnjaaGreatDoor
