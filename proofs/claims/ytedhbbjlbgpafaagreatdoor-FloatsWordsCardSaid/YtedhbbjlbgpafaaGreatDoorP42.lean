/-
  Count and Nth: their contracts.
-/
import Derived.Test.YtedhbbjlbgpafaaGreatDoorP41
set_option linter.unusedVariables false
set_option linter.unusedSimpArgs false
namespace Go.Proofs.YtedhbbjlbgpafaaGreatDoor
open Go.RowKit Go.Shelf Go.Canon
theorem m00:min (0:Int) (0:Int)=0:=rfl
theorem inB_small{x:Int}(h: -2^200<x∧x<2^200):inB x 0:=by
 have h1:(2:Int)^200≤sml:=by unfold sml;exact p2_le (by omega)
 exact⟨by omega,by omega,by omega,by omega⟩
theorem plc_range{E P X:Int}(h:Fmt E P)(x0:0≤X)(x1:X<2*signOf E P): -signOf E P<plcOf E P X∧plcOf E P X<signOf E P∧signOf E P≤2^124:=by
 obtain⟨s0,s1⟩:=siz_range (E:=E) (P:=P) x0 x1
 unfold sizW at s0 s1
 have s124:signOf E P≤2^124:=by
  obtain⟨a,b,c,d,e⟩:=h
  unfold signOf
  exact p2_le (by omega)
 unfold plcOf
 split<;>exact⟨by omega,by omega,s124⟩
theorem fstB_facts{E P K k:Int}(h:fstB E P K k=true):Fmt E P∧inB K k∧ -signOf E P<fstOf E P K k∧fstOf E P K k<signOf E P∧signOf E P≤2^124:=by
 unfold fstB at h
 rw[Bool.and_eq_true,Bool.and_eq_true]at h
 have h1:=of_decide_eq_true h.1
 have h3:=of_decide_eq_true h.2.2
 exact⟨h1,(of_decide_eq_true h.2.1).1,plc_range h1 h3.1 h3.2⟩
def cntN(E P K L k:Int):Int:=lstOf E P L k-fstOf E P K k+1
def cntI(E P K L k:Int):Int:=if cntN E P K L k>4611686018427387904 then 0 else cntN E P K L k
def cntE(E P K L k:Int):Int:=if cntN E P K L k>4611686018427387904 then 3 else 0
def cntB(E P K L k:Int):Bool:=fstB E P K k&&(fstB E P (-L) k&&decide (K≤L∧0≤cntN E P K L k))
theorem count_con{E P K L k:Int}(h:cntB E P K L k=true):Con Tryz.prog TR 27 [.v (fmtV E P),.n K k,.n L k] ⟨none,.tuple #[.int .i64 (cntI E P K L k),.int .i64 (cntE E P K L k)]⟩:=by
 unfold cntB at h
 rw[Bool.and_eq_true,Bool.and_eq_true]at h
 obtain⟨hK,hL,hd⟩:=h
 obtain⟨hle,hc0⟩:=of_decide_eq_true hd
 obtain⟨hF,bK,f0,f1,s124⟩:=fstB_facts hK
 obtain⟨_,bL,l0,l1,_⟩:=fstB_facts hL
 have p124:(2:Int)^124<2^199:=by
  have:=p2_le (show 125≤199 by omega)
  have e:(2:Int)^125=2^124*2:=Int.pow_succ _ _
  have:=p2pos 124
  omega
 have e200:(2:Int)^200=2^199*2:=Int.pow_succ _ _
 have p199:=p2pos 199
 have bL':inB L k:=⟨by have:=bL.2.1;omega,by have:=bL.1;omega,bL.2.2.1,bL.2.2.2⟩
 have g: ∀x,Ar.v x∈ [Ar.v (fmtV E P),.n K k,.n L k]→ground 9 x=true:=fun x hx=>by
  simp at hx;subst hx;rfl
 have eL:lstOf E P L k= -fstOf E P (-L) k:=rfl
 have eD:dfA E P K L k=lstOf E P L k-fstOf E P K k:=by unfold dfA;rw[upK_same,upK_same]
 have eC:cnA E P K L k=cntN E P K L k:=by unfold cnA cntN;rw[m00,upK_same,upK_same,eD]
 have hc:(chkE E P !=0)=false:=by unfold chkE;rw[if_pos hF];rfl
 have p10:(decide (inB (upK K k k) (min k k))&&decide (inB (upK L k k) (min k k)))=true:=by rw[upK_same,upK_same,show min k k=k by omega,decide_eq_true bK,decide_eq_true bL'];rfl
 have p11:decide (cmpI (upK K k k) (upK L k k)>0)=false:=by rw[upK_same,upK_same];unfold cmpI;exact decide_eq_false (by split<;>(try split)<;>omega)
 have p13:(decide (Fmt E P)&&(decide (inB (-L) k∧ -40000≤k)&&decide (0≤rndW E P 3 (-L) k∧rndW E P 3 (-L) k<2*signOf E P)))=true:=hL
 have p15:(decide (Fmt E P)&&(decide (inB K k∧ -40000≤k)&&decide (0≤rndW E P 3 K k∧rndW E P 3 K k<2*signOf E P)))=true:=hK
 have bf:inB (fstOf E P K k) 0:=inB_small (by omega)
 have bl:inB (lstOf E P L k) 0:=inB_small (by omega)
 have bd:inB (lstOf E P L k-fstOf E P K k) 0:=inB_small (by omega)
 have bc:inB (cntN E P K L k) 0:=inB_small (by unfold cntN;omega)
 have b1:inB 1 0:=inB_small (by omega)
 have b62:inB 4611686018427387904 0:=inB_small (by have:=p2_le (show 63≤199 by omega);have e:(2:Int)^63=9223372036854775808:=rfl;omega)
 have p18:(decide (inB (upK (lstOf E P L k) (0:Int) (0:Int)) (min (0:Int) (0:Int)))&&decide (inB (upK (fstOf E P K k) (0:Int) (0:Int)) (min (0:Int) (0:Int))))=true:=by simp only[m00,upK_same];rw[decide_eq_true bl,decide_eq_true bf];rfl
 have p22:(decide (inB (upK (dfA E P K L k) (min (0:Int) (0:Int)) (0:Int)) (min (min (0:Int) (0:Int)) (0:Int)))&&decide (inB (upK (1:Int) (0:Int) (min (0:Int) (0:Int))) (min (min (0:Int) (0:Int)) (0:Int))))=true:=by simp only[m00,upK_same,eD];rw[decide_eq_true bd,decide_eq_true b1];rfl
 have p27:(decide (inB (upK (cnA E P K L k) (min (min (0:Int) (0:Int)) (0:Int)) (0:Int)) (min (min (min (0:Int) (0:Int)) (0:Int)) (0:Int)))&&decide (inB (upK (4611686018427387904:Int) (0:Int) (min (min (0:Int) (0:Int)) (0:Int))) (min (min (min (0:Int) (0:Int)) (0:Int)) (0:Int))))=true:=by simp only[m00,upK_same,eC];rw[decide_eq_true bc,decide_eq_true b62];rfl
 have ok:=nest_ok coC_ok 6
 unfold cntI cntE
 by_cases hlong:cntN E P K L k>4611686018427387904
 ·have p28:decide (cmpI (upK (cnA E P K L k) (min (min (0:Int) (0:Int)) (0:Int)) (0:Int)) (upK (4611686018427387904:Int) (0:Int) (min (min (0:Int) (0:Int)) (0:Int)))>0)=true:=by simp only[m00,upK_same,eC];unfold cmpI;exact decide_eq_true (by rw[if_neg (by omega),if_pos (by omega)];omega)
  rw[if_pos hlong,if_pos hlong]
  exact con_plain ok (co_l E P K L k) (by simp only[co_l_cs,List.forall_mem_cons];(repeat' apply And.intro)<;>first|exact True.intro|with_reducible rfl|with_reducible assumption|(intro c hc;cases hc)|(simp[];done)) (by simp) g rfl rfl
 ·have p28:decide (cmpI (upK (cnA E P K L k) (min (min (0:Int) (0:Int)) (0:Int)) (0:Int)) (upK (4611686018427387904:Int) (0:Int) (min (min (0:Int) (0:Int)) (0:Int)))>0)=false:=by simp only[m00,upK_same,eC];unfold cmpI;exact decide_eq_false (by split<;>(try split)<;>omega)
  have p30:decide ((min (min (0:Int) (0:Int)) (0:Int))=0∧0≤(cnA E P K L k)∧(cnA E P K L k)<9223372036854775808)=true:=decide_eq_true ⟨rfl,by rw[eC];exact hc0,by rw[eC];omega⟩
  rw[if_neg hlong,if_neg hlong]
  exact con_plain ok (co_a E P K L k) (by simp only[co_a_cs,List.forall_mem_cons];(repeat' apply And.intro)<;>first|exact True.intro|with_reducible rfl|with_reducible assumption|(intro c hc;cases hc)|(simp[];done)) (by simp) g (by rw[eC]) rfl
def countS(xs:List Ar):Option Res:=match xs with
 |[.v a,.n K k,.n L _]=>match fmt2 a with
  |some (E,P)=>some ⟨none,.tuple #[.int .i64 (cntI E P K L k),.int .i64 (cntE E P K L k)]⟩
  |none=>none
 |_=>none
def countP(xs:List Ar):Bool:=match xs with
 |[.v a,.n K k,.n L l]=>match fmt2 a with
  |some (E,P)=>decide (k=l)&&cntB E P K L k
  |none=>false
 |_=>false
def countO:CF→St→Option (Value×St):=oracle 27 (conSpec TR countP countS)
theorem countO_ok:RunOkE Tryz.prog countO:=con_oracle numG gTR roTR2 fun xs R h hp=>by
 unfold countS at h
 split at h
 ·split at h
  ·rename_i E P hm
   injection h with h
   subst h
   unfold countP at hp
   simp only[hm,Bool.and_eq_true]at hp
   rw[fmt2_ok hm]
   obtain rfl:=of_decide_eq_true hp.1
   exact count_con hp.2
  ·cases h
 ·cases h
def nthW(E P K k n:Int):Int:=if fstOf E P K k+n<0 then-(fstOf E P K k+n)+signOf E P else fstOf E P K k+n
def nthB(E P K k n:Int):Bool:=fstB E P K k&&decide (0≤n∧n≤9223372036854775807∧fstOf E P K k+n<infOf E P)
theorem nth_con{E P K k n:Int}(h:nthB E P K k n=true):Con Tryz.prog TR 28 [.v (fmtV E P),.n K k,.v (.int .i64 n)] ⟨none,.tuple #[wordV (nthW E P K k n),.int .i64 0]⟩:=by
 unfold nthB at h
 rw[Bool.and_eq_true]at h
 obtain⟨hK,hd⟩:=h
 obtain⟨n0,n1,hi⟩:=of_decide_eq_true hd
 obtain⟨hF,bK,f0,f1,s124⟩:=fstB_facts hK
 have hinf:=inf_range hF
 have hs:=sign_range hF
 have hsd:signOf E P=2^(E+P-1).toNat:=rfl
 have p124:(2:Int)^124<2^199:=by
  have:=p2_le (show 125≤199 by omega)
  have e:(2:Int)^125=2^124*2:=Int.pow_succ _ _
  have:=p2pos 124
  omega
 have e200:(2:Int)^200=2^199*2:=Int.pow_succ _ _
 have p199:=p2pos 199
 have p63:(9223372036854775808:Int)≤2^199:=by have:=p2_le (show 63≤199 by omega);have e:(2:Int)^63=9223372036854775808:=rfl;omega
 have g: ∀x,Ar.v x∈ [Ar.v (fmtV E P),.n K k,.v (.int .i64 n)]→ground 9 x=true:=fun x hx=>by
  simp at hx;rcases hx with rfl|rfl<;>rfl
 have eA:atA E P K k n=fstOf E P K k+n:=by unfold atA;rw[upK_same,upK_same]
 have eI:plcOf E P (infOf E P)=infOf E P:=by
  unfold plcOf sizeOf'
  rw[if_neg (by omega),if_pos (by omega)]
 have hc:(chkE E P !=0)=false:=by unfold chkE;rw[if_pos hF];rfl
 have q8:decide (n<0)=false:=decide_eq_false (by omega)
 have q10:(decide (Fmt E P)&&(decide (inB K k∧ -40000≤k)&&decide (0≤rndW E P 3 K k∧rndW E P 3 K k<2*signOf E P)))=true:=hK
 have q11:decide (-9223372036854775808≤n∧n≤9223372036854775807)=true:=decide_eq_true (by omega)
 have bf:inB (fstOf E P K k) 0:=inB_small (by omega)
 have bn:inB n 0:=inB_small (by omega)
 have ba:inB (fstOf E P K k+n) 0:=inB_small (by omega)
 have bi:inB (infOf E P) 0:=inB_small (by omega)
 have q14:(decide (inB (upK (fstOf E P K k) (0:Int) (0:Int)) (min (0:Int) (0:Int)))&&decide (inB (upK n (0:Int) (0:Int)) (min (0:Int) (0:Int))))=true:=by simp only[m00,upK_same];rw[decide_eq_true bf,decide_eq_true bn];rfl
 have q16:decide (Fmt E P)=true:=decide_eq_true hF
 have q17:(decide (Fmt E P)&&(wB (wordV (infOf E P))&&decide (wX (wordV (infOf E P))<2*signOf E P)))=true:=by rw[wX_wordV,wB_wordV (by omega) (by omega),decide_eq_true hF,decide_eq_true (by omega)];rfl
 have q20:(decide (inB (upK (atA E P K k n) (min (0:Int) (0:Int)) (0:Int)) (min (min (0:Int) (0:Int)) (0:Int)))&&decide (inB (upK (plcOf E P (wX (wordV (infOf E P)))) (0:Int) (min (0:Int) (0:Int))) (min (min (0:Int) (0:Int)) (0:Int))))=true:=by simp only[m00,upK_same,eA,wX_wordV,eI];rw[decide_eq_true ba,decide_eq_true bi];rfl
 have q21:decide (cmpI (upK (atA E P K k n) (min (0:Int) (0:Int)) (0:Int)) (upK (plcOf E P (wX (wordV (infOf E P)))) (0:Int) (min (0:Int) (0:Int)))≥0)=false:=by simp only[m00,upK_same,eA,wX_wordV,eI];unfold cmpI;exact decide_eq_false (by rw[if_pos hi];omega)
 have hna:((fstOf E P K k+n).natAbs:Int)<signOf E P:=by omega
 have q28:decide (0≤(min (0:Int) (0:Int))∧0≤(((atA E P K k n)).natAbs:Int)*2^(min (0:Int) (0:Int)).toNat∧(((atA E P K k n)).natAbs:Int)*2^(min (0:Int) (0:Int)).toNat<2^124)=true:=by simp only[m00,eA];exact decide_eq_true (by simp only[Int.toNat_zero,Int.pow_zero,Int.mul_one];omega)
 have q29:(decide (Fmt E P)&&(wB (wordV ((((atA E P K k n)).natAbs:Int)*2^(min (0:Int) (0:Int)).toNat))&&decide (wX (wordV ((((atA E P K k n)).natAbs:Int)*2^(min (0:Int) (0:Int)).toNat))<signOf E P)))=true:=by
  simp only[m00,eA,Int.toNat_zero,Int.pow_zero,Int.mul_one]
  rw[wX_wordV,wB_wordV (by omega) (by omega),decide_eq_true hF,decide_eq_true hna];rfl
 have ok:=nest_ok ntC_ok 6
 unfold nthW
 by_cases hneg:fstOf E P K k+n<0
 ·have q24:decide (sgI (atA E P K k n)<0)=true:=by rw[eA];unfold sgI;exact decide_eq_true (by split<;>(try split)<;>omega)
  rw[if_pos hneg]
  exact con_plain ok (nt_n E P K k n) (by simp only[nt_n_cs,List.forall_mem_cons];(repeat' apply And.intro)<;>first|exact True.intro|with_reducible rfl|with_reducible assumption|(intro c hc;cases hc)|(simp[];done)) (by simp) g (by rw[wX_wordV,m00,eA];simp only[Int.toNat_zero,Int.pow_zero,Int.mul_one];rw[show((fstOf E P K k+n).natAbs:Int)= -(fstOf E P K k+n)by omega]) rfl
 ·have q24:decide (sgI (atA E P K k n)<0)=false:=by rw[eA];unfold sgI;exact decide_eq_false (by split<;>(try split)<;>omega)
  rw[if_neg hneg]
  exact con_plain ok (nt_p E P K k n) (by simp only[nt_p_cs,List.forall_mem_cons];(repeat' apply And.intro)<;>first|exact True.intro|with_reducible rfl|with_reducible assumption|(intro c hc;cases hc)|(simp[];done)) (by simp) g (by rw[wX_wordV,m00,eA];simp only[Int.toNat_zero,Int.pow_zero,Int.mul_one];rw[show((fstOf E P K k+n).natAbs:Int)=fstOf E P K k+n by omega]) rfl
def nthS(xs:List Ar):Option Res:=match xs with
 |[.v a,.n K k,.v (.int .i64 n)]=>match fmt2 a with
  |some (E,P)=>some ⟨none,.tuple #[wordV (nthW E P K k n),.int .i64 0]⟩
  |none=>none
 |_=>none
def nthP(xs:List Ar):Bool:=match xs with
 |[.v a,.n K k,.v (.int .i64 n)]=>match fmt2 a with
  |some (E,P)=>nthB E P K k n
  |none=>false
 |_=>false
def nthO:CF→St→Option (Value×St):=oracle 28 (conSpec TR nthP nthS)
theorem nthO_ok:RunOkE Tryz.prog nthO:=con_oracle numG gTR roTR2 fun xs R h hp=>by
 unfold nthS at h
 split at h
 ·split at h
  ·rename_i E P hm
   injection h with h
   subst h
   unfold nthP at hp
   simp only[hm]at hp
   rw[fmt2_ok hm]
   exact nth_con hp
  ·cases h
 ·cases h
end Go.Proofs.YtedhbbjlbgpafaaGreatDoor
