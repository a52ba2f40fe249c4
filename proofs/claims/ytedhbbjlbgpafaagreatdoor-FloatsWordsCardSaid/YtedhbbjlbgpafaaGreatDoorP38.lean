/-
  The machine's Decode: the kind, the sign, and the text of the number; its errors.
-/
import Derived.Test.YtedhbbjlbgpafaaGreatDoorP37
set_option linter.unusedVariables false
set_option linter.unusedSimpArgs false
namespace Go.Proofs.YtedhbbjlbgpafaaGreatDoor
open Go.RowKit Go.Shelf Go.Canon
def deTC:CF→St→Option (Value×St):=orElse checkO (orElse rightO (orElse decodeO textTO))
theorem deTC_ok:RunOkE Tryz.prog deTC:=orElse_ok checkO_ok (orElse_ok rightO_ok (orElse_ok decodeO_ok textTO_ok))
noncomputable def deTRun(E P X:Int)(an:List Bool)(n:Nat):Option (Value×Option CObj×List (Bool×Bool)):=conRun Tryz.prog TL (nest deTC 6) 1000 22 [.v (fmtV E P),.v (wordV X)] an n
def deT_a_cs(E P X:Int)(na:Bool):List (Bool×Bool):=[(true,true),(decide (inT (opK E P (wX (wordV X))) (fineOf E P)),true),(decide (opK E P (wX (wordV X))<0)==decide (opK E P (wX (wordV X))<0),true),(true,true),(false,false),(true,true),(true,true),(true,true),(false,false),(false,false),(true,true),(true,true),(negOf E P (wX (wordV X)),na),(decide (Fmt E P)&&(wB (wordV X)&&decide (wX (wordV X)<2*signOf E P)),true),(!decide (wX (wordV X)/2^(IntKind.i64.wrap (E+P)).toNat/18446744073709551616=0∧wX (wordV X)/2^(IntKind.i64.wrap (E+P)).toNat%18446744073709551616=0),false),(wB (wordV X)&&decide (0≤(IntKind.i64.wrap (E+P))∧(IntKind.i64.wrap (E+P))≤127),true),(true,true),(true,true),(true,true),(true,true),(true,true),(false,false),(true,true),(true,true),(true,true),(false,false),(false,false),(chkE E P !=0,false),(true,true)]
set_option maxRecDepth 1000000 in
theorem deT_a(E P X:Int)(na:Bool):deTRun E P X [false,false,false,false,true,false,na,false,false,false,true] 30=some (.tuple #[.agg #[.int .i64 (kindOf E P (wX (wordV X))),.bool na,.complex .f64 30 0],.int .i64 0],some (.ghost 3 [opK E P (wX (wordV X)),fineOf E P]),deT_a_cs E P X na):=by kernel_rfl
theorem fin_sz{E P X:Int}(h:Fmt E P)(x0:0≤X)(x1:X<2*signOf E P)(hk:kindOf E P X=1∨kindOf E P X=2):((opK E P X).natAbs:Int)<2^2200:=by
 have h1:=opK_lt h x0 x1 hk
 have hbr:=bias_range h.1 h.2.1
 have hP:=h.2.2.2.1
 have hP2:=h.2.2.1
 have h2:=p2_le (show(2*biasOf E-1+P).toNat≤2200 by omega)
 omega
theorem inT_word{E P X:Int}(h:Fmt E P)(x0:0≤X)(hX:X<2*signOf E P):inT (opK E P X) (fineOf E P):=by
 have hbr:=bias_range h.1 h.2.1
 have hP:=h.2.2.2.1
 have hP2:=h.2.2.1
 have hfe:fineOf E P=1-biasOf E-P+1:=rfl
 obtain⟨z0,z1⟩:=siz_range (E:=E) (P:=P) x0 hX
 have kr:=kind_range E P X
 have hlt:((opK E P X).natAbs:Int)<2^3000:=by
  by_cases k12:kindOf E P X=1∨kindOf E P X=2
  ·have a1:=fin_sz h x0 hX k12
   have:=p2_le (show 2200≤3000 by omega)
   omega
  ·have hsg:signOf E P≤2^127:=by
    obtain⟨a,b,c,d,e⟩:=h
    unfold signOf
    exact p2_le (by omega)
   have hd:(0:Int)-fineOf E P≤1300:=by omega
   have hm: ∀z:Int,(z.natAbs:Int)≤2^128→((z*2^(0-fineOf E P).toNat).natAbs:Int)<2^3000:=fun z hz=>by
    rw[Int.natAbs_mul,Int.natCast_mul]
    have e1:((((2:Int)^(0-fineOf E P).toNat).natAbs:Nat):Int)=2^(0-fineOf E P).toNat:=by
     have:=p2pos (0-fineOf E P).toNat;omega
    rw[e1]
    have h1:=Int.mul_le_mul_of_nonneg_right hz (Int.le_of_lt (p2pos (0-fineOf E P).toNat))
    rw[←Int.pow_add]at h1
    have h2:=p2_le (show 128+(0-fineOf E P).toNat≤2999 by omega)
    have h3:(2:Int)^3000=2^2999*2:=Int.pow_succ _ _
    have:=p2pos 2999
    omega
   have e128:(2:Int)^128=2^127*2:=Int.pow_succ _ _
   have hi:=inf_range h
   have hq:=quiet_range h
   have p3:=p2pos 3000
   have hsd:signOf E P=2^(E+P-1).toNat:=rfl
   unfold opK
   rw[if_neg (by omega)]
   split
   ·exact hm _ (by omega)
   ·split
    ·exact hm _ (by omega)
    ·exact p3
 exact⟨hlt,by omega,by omega⟩
def deTRes(E P X:Int):Res:=⟨some (.s [opK E P X,fineOf E P]),.tuple #[.agg #[.int .i64 (kindOf E P X),.bool (negOf E P X),tokS],.int .i64 0]⟩
theorem decodeT_word{E P X:Int}(h:Fmt E P)(x0:0≤X)(hX:X<2*signOf E P):Con Tryz.prog TL 22 [.v (fmtV E P),.v (wordV X)] (deTRes E P X):=by
 have hs:=sign_range h
 have g: ∀x,Ar.v x∈ [Ar.v (fmtV E P),.v (wordV X)]→ground 9 x=true:=fun x hx=>by
  simp at hx;rcases hx with rfl|rfl<;>rfl
 have ok:=nest_ok deTC_ok 6
 have hc:(chkE E P !=0)=false:=by unfold chkE;rw[if_pos h];rfl
 obtain⟨nrX,ndX,zX,_⟩:=rdOk h x0 (show X<two128 by omega)
 have ndX:=ndX hX
 have zX:=zX hX
 have nX:negOf E P (wX (wordV X))=negOf E P X:=by rw[wX_wordV]
 have it:decide (inT (opK E P (wX (wordV X))) (fineOf E P))=true:=by
  rw[wX_wordV]
  exact decide_eq_true (inT_word h x0 hX)
 exact con_of_run numG noCountP mixedP gTL roTL sizeP ok (by simp) g (deT_a E P X (negOf E P (wX (wordV X)))) (by simp only[deT_a_cs,List.forall_mem_cons];(repeat' apply And.intro)<;>first|exact True.intro|with_reducible rfl|with_reducible assumption|(intro c hc;cases hc)|(simp[];done)) ⟨by rw[wX_wordV];rfl,rfl,by rw[wX_wordV];rfl⟩
def deTS(xs:List Ar):Option Res:=match xs with
 |[.v a,.v b]=>match fmt2 a with
  |some (E,P)=>some (deTRes E P (wX b))
  |none=>none
 |_=>none
def deTP(xs:List Ar):Bool:=match xs with
 |[.v a,.v b]=>match fmt2 a with
  |some (E,P)=>decide (Fmt E P)&&(wB b&&decide (wX b<2*signOf E P))
  |none=>false
 |_=>false
def mDecTO:CF→St→Option (Value×St):=oracle 22 (conSpec TL deTP deTS)
theorem mDecTO_ok:RunOkE Tryz.prog mDecTO:=con_oracle numG gTL roTL2 fun xs R h hp=>by
 unfold deTS at h
 split at h
 ·split at h
  ·rename_i hm
   injection h with h
   subst h
   unfold deTP at hp
   simp only[hm,Bool.and_eq_true]at hp
   rw[fmt2_ok hm]
   have:=decodeT_word (of_decide_eq_true hp.1) (wX_range hp.2.1).1 (of_decide_eq_true hp.2.2)
   rw[←wB_eq hp.2.1]at this
   exact this
  ·cases h
 ·cases h
def deErr(e:Int):Value:=.tuple #[.agg #[.int .i64 0,.bool false,.string ByteArray.empty],.int .i64 e]
def deE_f_cs(E P X:Int):List (Bool×Bool):=[(true,true),(true,true),(true,true),(true,true),(true,true),(true,true),(true,true),(true,true),(chkE E P !=0,true),(true,true)]
set_option maxRecDepth 1000000 in
theorem deE_f(E P X:Int):deTRun E P X [true,true,true,true] 2=some (deErr 2,some (.fact 0),deE_f_cs E P X):=by kernel_rfl
def deE_x_cs(E P X:Int):List (Bool×Bool):=[(true,true),(true,true),(true,true),(true,true),(true,true),(!decide (wX (wordV X)/2^(IntKind.i64.wrap (E+P)).toNat/18446744073709551616=0∧wX (wordV X)/2^(IntKind.i64.wrap (E+P)).toNat%18446744073709551616=0),true),(wB (wordV X)&&decide (0≤(IntKind.i64.wrap (E+P))∧(IntKind.i64.wrap (E+P))≤127),true),(true,true),(true,true),(true,true),(true,true),(true,true),(false,false),(true,true),(true,true),(true,true),(false,false),(false,false),(chkE E P !=0,false),(true,true)]
set_option maxRecDepth 1000000 in
theorem deE_x(E P X:Int):deTRun E P X [false,false,false,false,true,true,true,true,true] 2=some (deErr 6,some (.fact 0),deE_x_cs E P X):=by kernel_rfl
theorem decodeE_word{E P X:Int}(x0:0≤X)(x1:X<two128)(he: ¬wErr E P [X]=0):Con Tryz.prog TL 22 [.v (fmtV E P),.v (wordV X)] ⟨none,deErr (wErr E P [X])⟩:=by
 have g: ∀x,Ar.v x∈ [Ar.v (fmtV E P),.v (wordV X)]→ground 9 x=true:=fun x hx=>by
  simp at hx;rcases hx with rfl|rfl<;>rfl
 have ok:=nest_ok deTC_ok 6
 unfold wErr at he⊢
 by_cases h:Fmt E P
 ·rw[if_pos h]at he⊢
  have hc:(chkE E P !=0)=false:=by unfold chkE;rw[if_pos h];rfl
  obtain⟨nrX,_,_,zX⟩:=rdOk h x0 x1
  by_cases hX:X<2*signOf E P
  ·exact absurd (by rw[if_pos (all1.2 hX)]) he
  ·have zX:=zX hX
   rw[if_neg (fun hc=>hX (all1.1 hc))]
   exact con_of_run numG noCountP mixedP gTL roTL sizeP ok (by simp) g (deE_x E P X) (by simp only[deE_x_cs,List.forall_mem_cons];(repeat' apply And.intro)<;>first|exact True.intro|with_reducible rfl|with_reducible assumption|(intro c hc;cases hc)|(simp[];done)) ⟨rfl,rfl⟩
 ·rw[if_neg h]
  have hc:(chkE E P !=0)=true:=by unfold chkE;rw[if_neg h];rfl
  exact con_of_run numG noCountP mixedP gTL roTL sizeP ok (by simp) g (deE_f E P X) (by simp only[deE_f_cs,List.forall_mem_cons];(repeat' apply And.intro)<;>first|exact True.intro|with_reducible rfl|with_reducible assumption|(intro c hc;cases hc)|(simp[];done)) ⟨rfl,rfl⟩
def deES(xs:List Ar):Option Res:=match xs with
 |[.v a,.v b]=>match fmt2 a with
  |some (E,P)=>some ⟨none,.tuple #[.agg #[.int .i64 0,.bool false,.string ByteArray.empty],.int .i64 (wErr E P [wX b])]⟩
  |none=>none
 |_=>none
def deEP(xs:List Ar):Bool:=match xs with
 |[.v a,.v b]=>match fmt2 a with
  |some (E,P)=>wB b&& !decide (wErr E P [wX b]=0)
  |none=>false
 |_=>false
def mDecEO:CF→St→Option (Value×St):=oracle 22 (conSpec TL deEP deES)
theorem mDecEO_ok:RunOkE Tryz.prog mDecEO:=con_oracle numG gTL roTL2 fun xs R h hp=>by
 unfold deES at h
 split at h
 ·split at h
  ·rename_i hm
   injection h with h
   subst h
   unfold deEP at hp
   simp only[hm,Bool.and_eq_true]at hp
   rw[fmt2_ok hm]
   have hr:=wX_range hp.1
   have:=decodeE_word hr.1 hr.2 (by have:=hp.2;simpa using this)
   rw[←wB_eq hp.1]at this
   exact this
  ·cases h
 ·cases h
end Go.Proofs.YtedhbbjlbgpafaaGreatDoor
