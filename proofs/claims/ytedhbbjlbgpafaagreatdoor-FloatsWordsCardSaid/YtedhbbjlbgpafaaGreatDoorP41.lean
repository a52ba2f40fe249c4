/-
  The places of values: place, first and last: paths and contracts.
-/
import Derived.Test.YtedhbbjlbgpafaaGreatDoorP29
import Derived.Test.YtedhbbjlbgpafaaGreatDoorP40
set_option linter.unusedVariables false
set_option linter.unusedSimpArgs false
set_option maxRecDepth 1000000
namespace Go.Proofs.YtedhbbjlbgpafaaGreatDoor
open Go.RowKit Go.Shelf Go.Canon
def plcOf(E P X:Int):Int:=if signOf E P≤X then-(sizeOf' E P X)else sizeOf' E P X
def plcC:CF→St→Option (Value×St):=orElse unsignedO (orElse toNumO negO)
theorem plcC_ok:RunOkE Tryz.prog plcC:=orElse_ok unsignedO_ok (orElse_ok toNumO_ok negO_ok)
noncomputable def plcRun(E P m X:Int)(an:List Bool)(n:Nat):Option (Value×Option CObj×List (Bool×Bool)):=conRun Tryz.prog TR plcC 1000 82 [.v (machV E P m),.v (wordV X)] an n
def plc_p_cs(E P m X:Int):List (Bool×Bool):=[(true,true),(wB (wordV (sizeOf' E P (wX (wordV X))))&&decide (wX (wordV (sizeOf' E P (wX (wordV X))))<2^124),true),(true,true),((decide (signOf E P≤wX (wordV X))),false),(decide (Fmt E P)&&wB (wordV X),true)]
theorem plc_p(E P m X:Int):plcRun E P m X [false,true] 17=some (subst 17 4 (numT (wX (wordV (sizeOf' E P (wX (wordV X)))))),some (.ghost 0 [wX (wordV (sizeOf' E P (wX (wordV X)))),0]),plc_p_cs E P m X):=by kernel_rfl
def plc_n_cs(E P m X:Int):List (Bool×Bool):=[(true,true),(true,true),(decide (wX (wordV (sizeOf' E P (wX (wordV X))))<0)==decide (wX (wordV (sizeOf' E P (wX (wordV X))))<0),true),(wB (wordV (sizeOf' E P (wX (wordV X))))&&decide (wX (wordV (sizeOf' E P (wX (wordV X))))<2^124),true),(true,true),((decide (signOf E P≤wX (wordV X))),true),(decide (Fmt E P)&&wB (wordV X),true)]
theorem plc_n(E P m X:Int):plcRun E P m X [true,true] 18=some (subst 18 4 (numT (-wX (wordV (sizeOf' E P (wX (wordV X)))))),some (.ghost 0 [-wX (wordV (sizeOf' E P (wX (wordV X)))),0]),plc_n_cs E P m X):=by kernel_rfl
theorem place_con{E P m X:Int}(h:Fmt E P)(x0:0≤X)(x1:X<2*signOf E P):Con Tryz.prog TR 82 [.v (machV E P m),.v (wordV X)] (resN (plcOf E P X) 0):=by
 have hs:=sign_range h
 obtain⟨s0,s1⟩:=siz_range (E:=E) (P:=P) x0 x1
 unfold sizW at s0 s1
 have g: ∀x,Ar.v x∈ [Ar.v (machV E P m),.v (wordV X)]→ground 9 x=true:=fun x hx=>by
  simp at hx;rcases hx with rfl|rfl<;>rfl
 have c1:(decide (Fmt E P)&&wB (wordV X))=true:=by rw[decide_eq_true h,wB_wordV x0 (by omega)];rfl
 have s124:signOf E P≤2^124:=by
  obtain⟨a,b,c,d,e⟩:=h
  unfold signOf
  exact p2_le (by omega)
 have c2:(wB (wordV (sizeOf' E P (wX (wordV X))))&&decide (wX (wordV (sizeOf' E P (wX (wordV X))))<2^124))=true:=by
  rw[wX_wordV,wX_wordV,wB_wordV s0 (by omega),decide_eq_true (by omega)];rfl
 unfold plcOf
 by_cases hn:signOf E P≤X
 ·rw[if_pos hn]
  have c3:decide (signOf E P≤wX (wordV X))=true:=by rw[wX_wordV];exact decide_eq_true hn
  have:=con_num plcC_ok (plc_n E P m X) (by simp only[plc_n_cs,List.forall_mem_cons];(repeat' apply And.intro)<;>first|exact True.intro|with_reducible rfl|with_reducible assumption|(intro c hc;cases hc)|(simp[];done)) (by simp) g
  rwa [wX_wordV,wX_wordV]at this
 ·rw[if_neg hn]
  have c3:decide (signOf E P≤wX (wordV X))=false:=by rw[wX_wordV];exact decide_eq_false hn
  have:=con_num plcC_ok (plc_p E P m X) (by simp only[plc_p_cs,List.forall_mem_cons];(repeat' apply And.intro)<;>first|exact True.intro|with_reducible rfl|with_reducible assumption|(intro c hc;cases hc)|(simp[];done)) (by simp) g
  rwa [wX_wordV,wX_wordV]at this
def plcS(xs:List Ar):Option Res:=match xs with
 |[.v a,.v b]=>match mach3 a with
  |some (E,P,_)=>some (resN (plcOf E P (wX b)) 0)
  |none=>none
 |_=>none
def placeO:CF→St→Option (Value×St):=oracle 82 (conSpec TR mwP plcS)
theorem placeO_ok:RunOkE Tryz.prog placeO:=con_oracle numG gTR roTR2 fun xs R h hp=>by
 unfold plcS at h
 split at h
 ·split at h
  ·rename_i E P m hm
   injection h with h
   subst h
   unfold mwP at hp
   simp only[hm,Bool.and_eq_true]at hp
   rw[mach3_ok hm]
   have:=place_con (m:=m) (of_decide_eq_true hp.1) (wX_range hp.2.1).1 (of_decide_eq_true hp.2.2)
   rwa [←wB_eq hp.2.1]at this
  ·cases h
 ·cases h
def fstOf(E P K k:Int):Int:=plcOf E P (rndW E P 3 K k)
def fstB(E P K k:Int):Bool:=decide (Fmt E P)&&(decide (inB K k∧ -40000≤k)&&decide (0≤rndW E P 3 K k∧rndW E P 3 K k<2*signOf E P))
def fsC:CF→St→Option (Value×St):=orElse roundO placeO
theorem fsC_ok:RunOkE Tryz.prog fsC:=orElse_ok roundO_ok placeO_ok
noncomputable def fsRun(E P m K k:Int)(an:List Bool)(n:Nat):Option (Value×Option CObj×List (Bool×Bool)):=conRun Tryz.prog TR fsC 1000 78 [.v (machV E P m),.n K k] an n
def fs_a_cs(E P m K k:Int):List (Bool×Bool):=[(true,true),(decide (Fmt E P)&&(wB (wordV (rndW E P 3 K k))&&decide (wX (wordV (rndW E P 3 K k))<2*signOf E P)),true),(true,true),(decide (Fmt E P)&&(decide (0≤(3:Int)∧(3:Int)≤4)&&decide (inB K k∧ -40000≤k)),true),(decide (K<0)==decide (K<0),true),(true,true)]
theorem fs_a(E P m K k:Int):fsRun E P m K k [true] 17=some (subst 17 4 (numT (plcOf E P (wX (wordV (rndW E P 3 K k))))),some (.ghost 0 [plcOf E P (wX (wordV (rndW E P 3 K k))),0]),fs_a_cs E P m K k):=by kernel_rfl
theorem first_con{E P m K k:Int}(h:fstB E P K k=true):Con Tryz.prog TR 78 [.v (machV E P m),.n K k] (resN (fstOf E P K k) 0):=by
 unfold fstB at h
 rw[Bool.and_eq_true,Bool.and_eq_true]at h
 obtain⟨h1,h2,h3⟩:=h
 have hF:=of_decide_eq_true h1
 have hs:=sign_range hF
 have g: ∀x,Ar.v x∈ [Ar.v (machV E P m),.n K k]→ground 9 x=true:=fun x hx=>by
  simp at hx;subst hx;rfl
 have hr:=of_decide_eq_true h3
 have c1:(decide (Fmt E P)&&(decide (0≤(3:Int)∧(3:Int)≤4)&&decide (inB K k∧ -40000≤k)))=true:=by rw[h1,h2];rfl
 have c2:(decide (Fmt E P)&&(wB (wordV (rndW E P 3 K k))&&decide (wX (wordV (rndW E P 3 K k))<2*signOf E P)))=true:=by
  rw[wX_wordV,wB_wordV hr.1 (by omega),h1,decide_eq_true hr.2];rfl
 have:=con_num fsC_ok (fs_a E P m K k) (by simp only[fs_a_cs,List.forall_mem_cons];(repeat' apply And.intro)<;>first|exact True.intro|with_reducible rfl|with_reducible assumption|(intro c hc;cases hc)|(simp[];done)) (by simp) g
 rwa [wX_wordV]at this
def fstS(xs:List Ar):Option Res:=match xs with
 |[.v a,.n K k]=>match mach3 a with
  |some (E,P,_)=>some (resN (fstOf E P K k) 0)
  |none=>none
 |_=>none
def fstP(xs:List Ar):Bool:=match xs with
 |[.v a,.n K k]=>match mach3 a with
  |some (E,P,_)=>decide (Fmt E P)&&(decide (inB K k∧ -40000≤k)&&decide (0≤rndW E P 3 K k∧rndW E P 3 K k<2*signOf E P))
  |none=>false
 |_=>false
def firstO:CF→St→Option (Value×St):=oracle 78 (conSpec TR fstP fstS)
theorem firstO_ok:RunOkE Tryz.prog firstO:=con_oracle numG gTR roTR2 fun xs R h hp=>by
 unfold fstS at h
 split at h
 ·split at h
  ·rename_i E P m hm
   injection h with h
   subst h
   unfold fstP at hp
   simp only[hm]at hp
   rw[mach3_ok hm]
   exact first_con hp
  ·cases h
 ·cases h
def lstOf(E P K k:Int):Int:= -fstOf E P (-K) k
def lsC:CF→St→Option (Value×St):=orElse negO firstO
theorem lsC_ok:RunOkE Tryz.prog lsC:=orElse_ok negO_ok firstO_ok
noncomputable def lsRun(E P m K k:Int)(an:List Bool)(n:Nat):Option (Value×Option CObj×List (Bool×Bool)):=conRun Tryz.prog TR lsC 1000 76 [.v (machV E P m),.n K k] an n
def ls_a_cs(E P m K k:Int):List (Bool×Bool):=[(true,true),(true,true),(decide (fstOf E P (-K) k<0)==decide (fstOf E P (-K) k<0),true),(decide (Fmt E P)&&(decide (inB (-K) k∧ -40000≤k)&&decide (0≤rndW E P 3 (-K) k∧rndW E P 3 (-K) k<2*signOf E P)),true),(decide (-K<0)==decide (-K<0),true),(true,true),(decide (K<0)==decide (K<0),true)]
theorem ls_a(E P m K k:Int):lsRun E P m K k [true] 18=some (subst 18 4 (numT (-fstOf E P (-K) k)),some (.ghost 0 [-fstOf E P (-K) k,0]),ls_a_cs E P m K k):=by kernel_rfl
theorem last_con{E P m K k:Int}(h:fstB E P (-K) k=true):Con Tryz.prog TR 76 [.v (machV E P m),.n K k] (resN (lstOf E P K k) 0):=by
 have g: ∀x,Ar.v x∈ [Ar.v (machV E P m),.n K k]→ground 9 x=true:=fun x hx=>by
  simp at hx;subst hx;rfl
 unfold fstB at h
 exact con_num lsC_ok (ls_a E P m K k) (by simp only[ls_a_cs,List.forall_mem_cons];(repeat' apply And.intro)<;>first|exact True.intro|with_reducible rfl|with_reducible assumption|(intro c hc;cases hc)|(simp[];done)) (by simp) g
def lstS(xs:List Ar):Option Res:=match xs with
 |[.v a,.n K k]=>match mach3 a with
  |some (E,P,_)=>some (resN (lstOf E P K k) 0)
  |none=>none
 |_=>none
def lstP(xs:List Ar):Bool:=match xs with
 |[.v a,.n K k]=>match mach3 a with
  |some (E,P,_)=>decide (Fmt E P)&&(decide (inB (-K) k∧ -40000≤k)&&decide (0≤rndW E P 3 (-K) k∧rndW E P 3 (-K) k<2*signOf E P))
  |none=>false
 |_=>false
def lastO:CF→St→Option (Value×St):=oracle 76 (conSpec TR lstP lstS)
theorem lastO_ok:RunOkE Tryz.prog lastO:=con_oracle numG gTR roTR2 fun xs R h hp=>by
 unfold lstS at h
 split at h
 ·split at h
  ·rename_i E P m hm
   injection h with h
   subst h
   unfold lstP at hp
   simp only[hm]at hp
   rw[mach3_ok hm]
   exact last_con hp
  ·cases h
 ·cases h
theorem int64_con{K:Int}(h:0≤K∧K<9223372036854775808):Con Tryz.prog TT 81 [.n K 0] ⟨none,.tuple #[.int .i64 K,.int .i64 0]⟩:=con_mk fun w hE l ha=>by
 obtain⟨v,rfl,hd⟩:=ars_n ha
 have hk:K<sml:=by
  have h1:(2:Int)^63<sml:=by
   unfold sml
   obtain⟨d,hd⟩: ∃d,60000=63+(d+1):=⟨59936,rfl⟩
   rw[hd,Int.pow_add,Int.pow_succ]
   have:=p2pos d
   omega
  have h2:(2:Int)^63=9223372036854775808:=rfl
  omega
 exact((int64_any w v K hd h.1 hk).1 h.2).mono fun en w1 hx=>by
  exact⟨_,hx.1,rfl,hx.2⟩
def int64S(xs:List Ar):Option Res:=match xs with
 |[.n K k]=>some ⟨none,.tuple #[.int .i64 K,.int .i64 0]⟩
 |_=>none
def int64P(xs:List Ar):Bool:=match xs with
 |[.n K k]=>decide (k=0∧0≤K∧K<9223372036854775808)
 |_=>false
def int64O:CF→St→Option (Value×St):=oracle 81 (conSpec TT int64P int64S)
theorem int64O_ok:RunOkE Tryz.prog int64O:=con_oracle numG gTT roTT fun xs R h hp=>by
 unfold int64S at h
 split at h
 ·injection h with h
  subst h
  unfold int64P at hp
  obtain⟨rfl,h1⟩:=of_decide_eq_true hp
  exact int64_con h1
 ·cases h
def dfA(E P K L k:Int):Int:=upK (lstOf E P L k) 0 0-upK (fstOf E P K k) 0 0
def cnA(E P K L k:Int):Int:=upK (dfA E P K L k) (min 0 0) 0+upK 1 0 (min 0 0)
def atA(E P K k n:Int):Int:=upK (fstOf E P K k) 0 0+upK n 0 0
def coC:CF→St→Option (Value×St):=orElse checkO (orElse cmpO (orElse lastO (orElse firstO (orElse subO (orElse intO (orElse addO int64O))))))
theorem coC_ok:RunOkE Tryz.prog coC:=orElse_ok checkO_ok (orElse_ok cmpO_ok (orElse_ok lastO_ok (orElse_ok firstO_ok (orElse_ok subO_ok (orElse_ok intO_ok (orElse_ok addO_ok int64O_ok))))))
noncomputable def coRun(E P K L k:Int)(an:List Bool)(n:Nat):Option (Value×Option CObj×List (Bool×Bool)):=conRun Tryz.prog TR (nest coC 6) 1000 27 [.v (fmtV E P),.n K k,.n L k] an n
def ntC:CF→St→Option (Value×St):=orElse checkO (orElse firstO (orElse intO (orElse addO (orElse infinityO (orElse placeO (orElse cmpO (orElse signO (orElse absO (orElse toWordO signedO)))))))))
theorem ntC_ok:RunOkE Tryz.prog ntC:=orElse_ok checkO_ok (orElse_ok firstO_ok (orElse_ok intO_ok (orElse_ok addO_ok (orElse_ok infinityO_ok (orElse_ok placeO_ok (orElse_ok cmpO_ok (orElse_ok signO_ok (orElse_ok absO_ok (orElse_ok toWordO_ok signedO_ok)))))))))
noncomputable def ntRun(E P K k n:Int)(an:List Bool)(m:Nat):Option (Value×Option CObj×List (Bool×Bool)):=conRun Tryz.prog TR (nest ntC 6) 1000 28 [.v (fmtV E P),.n K k,.v (.int .i64 n)] an m
def co_a_cs(E P K L k:Int):List (Bool×Bool):=[(decide ((min (min (0:Int) (0:Int)) (0:Int))=0∧0≤(cnA E P K L k)∧(cnA E P K L k)<9223372036854775808),true),(decide (cnA E P K L k<0)==decide (cnA E P K L k<0),true),(decide (cmpI (upK (cnA E P K L k) (min (min (0:Int) (0:Int)) (0:Int)) (0:Int)) (upK (4611686018427387904:Int) (0:Int) (min (min (0:Int) (0:Int)) (0:Int)))>0),false),(decide (inB (upK (cnA E P K L k) (min (min (0:Int) (0:Int)) (0:Int)) (0:Int)) (min (min (min (0:Int) (0:Int)) (0:Int)) (0:Int)))&&decide (inB (upK (4611686018427387904:Int) (0:Int) (min (min (0:Int) (0:Int)) (0:Int))) (min (min (min (0:Int) (0:Int)) (0:Int)) (0:Int))),true),(decide ((4611686018427387904:Int)<0)==decide ((4611686018427387904:Int)<0),true),(decide (cnA E P K L k<0)==decide (cnA E P K L k<0),true),(decide (-9223372036854775808≤(4611686018427387904:Int)∧(4611686018427387904:Int)≤9223372036854775807),true),(true,true),(decide (inB (upK (dfA E P K L k) (min (0:Int) (0:Int)) (0:Int)) (min (min (0:Int) (0:Int)) (0:Int)))&&decide (inB (upK (1:Int) (0:Int) (min (0:Int) (0:Int))) (min (min (0:Int) (0:Int)) (0:Int))),true),(decide ((1:Int)<0)==decide ((1:Int)<0),true),(decide (dfA E P K L k<0)==decide (dfA E P K L k<0),true),(decide (-9223372036854775808≤(1:Int)∧(1:Int)≤9223372036854775807),true),(decide (inB (upK (lstOf E P L k) (0:Int) (0:Int)) (min (0:Int) (0:Int)))&&decide (inB (upK (fstOf E P K k) (0:Int) (0:Int)) (min (0:Int) (0:Int))),true),(decide (fstOf E P K k<0)==decide (fstOf E P K k<0),true),(decide (lstOf E P L k<0)==decide (lstOf E P L k<0),true),(decide (Fmt E P)&&(decide (inB K k∧ -40000≤k)&&decide (0≤rndW E P 3 K k∧rndW E P 3 K k<2*signOf E P)),true),(decide (K<0)==decide (K<0),true),(decide (Fmt E P)&&(decide (inB (-L) k∧ -40000≤k)&&decide (0≤rndW E P 3 (-L) k∧rndW E P 3 (-L) k<2*signOf E P)),true),(decide (L<0)==decide (L<0),true),(decide (cmpI (upK K k k) (upK L k k)>0),false),(decide (inB (upK K k k) (min k k))&&decide (inB (upK L k k) (min k k)),true),(decide (L<0)==decide (L<0),true),(decide (K<0)==decide (K<0),true),(false,false),(true,true),(true,true),(true,true),(false,false),(false,false),(chkE E P !=0,false),(true,true)]
theorem co_a(E P K L k:Int):coRun E P K L k [false,false,false,false,false,false,true] 2=some (.tuple #[.int .i64 (cnA E P K L k),.int .i64 0],some (.fact 0),co_a_cs E P K L k):=by kernel_rfl
def co_l_cs(E P K L k:Int):List (Bool×Bool):=[(decide (cmpI (upK (cnA E P K L k) (min (min (0:Int) (0:Int)) (0:Int)) (0:Int)) (upK (4611686018427387904:Int) (0:Int) (min (min (0:Int) (0:Int)) (0:Int)))>0),true),(decide (inB (upK (cnA E P K L k) (min (min (0:Int) (0:Int)) (0:Int)) (0:Int)) (min (min (min (0:Int) (0:Int)) (0:Int)) (0:Int)))&&decide (inB (upK (4611686018427387904:Int) (0:Int) (min (min (0:Int) (0:Int)) (0:Int))) (min (min (min (0:Int) (0:Int)) (0:Int)) (0:Int))),true),(decide ((4611686018427387904:Int)<0)==decide ((4611686018427387904:Int)<0),true),(decide (cnA E P K L k<0)==decide (cnA E P K L k<0),true),(decide (-9223372036854775808≤(4611686018427387904:Int)∧(4611686018427387904:Int)≤9223372036854775807),true),(true,true),(decide (inB (upK (dfA E P K L k) (min (0:Int) (0:Int)) (0:Int)) (min (min (0:Int) (0:Int)) (0:Int)))&&decide (inB (upK (1:Int) (0:Int) (min (0:Int) (0:Int))) (min (min (0:Int) (0:Int)) (0:Int))),true),(decide ((1:Int)<0)==decide ((1:Int)<0),true),(decide (dfA E P K L k<0)==decide (dfA E P K L k<0),true),(decide (-9223372036854775808≤(1:Int)∧(1:Int)≤9223372036854775807),true),(decide (inB (upK (lstOf E P L k) (0:Int) (0:Int)) (min (0:Int) (0:Int)))&&decide (inB (upK (fstOf E P K k) (0:Int) (0:Int)) (min (0:Int) (0:Int))),true),(decide (fstOf E P K k<0)==decide (fstOf E P K k<0),true),(decide (lstOf E P L k<0)==decide (lstOf E P L k<0),true),(decide (Fmt E P)&&(decide (inB K k∧ -40000≤k)&&decide (0≤rndW E P 3 K k∧rndW E P 3 K k<2*signOf E P)),true),(decide (K<0)==decide (K<0),true),(decide (Fmt E P)&&(decide (inB (-L) k∧ -40000≤k)&&decide (0≤rndW E P 3 (-L) k∧rndW E P 3 (-L) k<2*signOf E P)),true),(decide (L<0)==decide (L<0),true),(decide (cmpI (upK K k k) (upK L k k)>0),false),(decide (inB (upK K k k) (min k k))&&decide (inB (upK L k k) (min k k)),true),(decide (L<0)==decide (L<0),true),(decide (K<0)==decide (K<0),true),(false,false),(true,true),(true,true),(true,true),(false,false),(false,false),(chkE E P !=0,false),(true,true)]
theorem co_l(E P K L k:Int):coRun E P K L k [false,false,false,false,false,true,true] 2=some (.tuple #[.int .i64 0,.int .i64 3],some (.fact 0),co_l_cs E P K L k):=by kernel_rfl
def nt_p_cs(E P K k n:Int):List (Bool×Bool):=[(true,true),(decide (Fmt E P)&&(wB (wordV ((((atA E P K k n)).natAbs:Int)*2^(min (0:Int) (0:Int)).toNat))&&decide (wX (wordV ((((atA E P K k n)).natAbs:Int)*2^(min (0:Int) (0:Int)).toNat))<signOf E P)),true),(decide (0≤(min (0:Int) (0:Int))∧0≤(((atA E P K k n)).natAbs:Int)*2^(min (0:Int) (0:Int)).toNat∧(((atA E P K k n)).natAbs:Int)*2^(min (0:Int) (0:Int)).toNat<2^124),true),(decide ((((atA E P K k n)).natAbs:Int)<0)==decide ((((atA E P K k n)).natAbs:Int)<0),true),(true,true),(decide (atA E P K k n<0)==decide (atA E P K k n<0),true),(decide (sgI (atA E P K k n)<0),false),(true,true),(decide (atA E P K k n<0)==decide (atA E P K k n<0),true),(decide (cmpI (upK (atA E P K k n) (min (0:Int) (0:Int)) (0:Int)) (upK (plcOf E P (wX (wordV (infOf E P)))) (0:Int) (min (0:Int) (0:Int)))≥0),false),(decide (inB (upK (atA E P K k n) (min (0:Int) (0:Int)) (0:Int)) (min (min (0:Int) (0:Int)) (0:Int)))&&decide (inB (upK (plcOf E P (wX (wordV (infOf E P)))) (0:Int) (min (0:Int) (0:Int))) (min (min (0:Int) (0:Int)) (0:Int))),true),(decide (plcOf E P (wX (wordV (infOf E P)))<0)==decide (plcOf E P (wX (wordV (infOf E P)))<0),true),(decide (atA E P K k n<0)==decide (atA E P K k n<0),true),(decide (Fmt E P)&&(wB (wordV (infOf E P))&&decide (wX (wordV (infOf E P))<2*signOf E P)),true),(decide (Fmt E P),true),(true,true),(decide (inB (upK (fstOf E P K k) (0:Int) (0:Int)) (min (0:Int) (0:Int)))&&decide (inB (upK n (0:Int) (0:Int)) (min (0:Int) (0:Int))),true),(decide (n<0)==decide (n<0),true),(decide (fstOf E P K k<0)==decide (fstOf E P K k<0),true),(decide (-9223372036854775808≤n∧n≤9223372036854775807),true),(decide (Fmt E P)&&(decide (inB K k∧ -40000≤k)&&decide (0≤rndW E P 3 K k∧rndW E P 3 K k<2*signOf E P)),true),(decide (K<0)==decide (K<0),true),(decide (n<0),false),(false,false),(true,true),(true,true),(true,true),(false,false),(false,false),(chkE E P !=0,false),(true,true)]
theorem nt_p(E P K k n:Int):ntRun E P K k n [false,false,false,false,false,false,false,true] 2=some (.tuple #[wordV (wX (wordV (((atA E P K k n).natAbs:Int)*2^(min (0:Int) (0:Int)).toNat))),.int .i64 0],some (.fact 0),nt_p_cs E P K k n):=by kernel_rfl
def nt_n_cs(E P K k n:Int):List (Bool×Bool):=[(true,true),(decide (Fmt E P)&&(wB (wordV ((((atA E P K k n)).natAbs:Int)*2^(min (0:Int) (0:Int)).toNat))&&decide (wX (wordV ((((atA E P K k n)).natAbs:Int)*2^(min (0:Int) (0:Int)).toNat))<signOf E P)),true),(decide (0≤(min (0:Int) (0:Int))∧0≤(((atA E P K k n)).natAbs:Int)*2^(min (0:Int) (0:Int)).toNat∧(((atA E P K k n)).natAbs:Int)*2^(min (0:Int) (0:Int)).toNat<2^124),true),(decide ((((atA E P K k n)).natAbs:Int)<0)==decide ((((atA E P K k n)).natAbs:Int)<0),true),(true,true),(decide (atA E P K k n<0)==decide (atA E P K k n<0),true),(decide (sgI (atA E P K k n)<0),true),(true,true),(decide (atA E P K k n<0)==decide (atA E P K k n<0),true),(decide (cmpI (upK (atA E P K k n) (min (0:Int) (0:Int)) (0:Int)) (upK (plcOf E P (wX (wordV (infOf E P)))) (0:Int) (min (0:Int) (0:Int)))≥0),false),(decide (inB (upK (atA E P K k n) (min (0:Int) (0:Int)) (0:Int)) (min (min (0:Int) (0:Int)) (0:Int)))&&decide (inB (upK (plcOf E P (wX (wordV (infOf E P)))) (0:Int) (min (0:Int) (0:Int))) (min (min (0:Int) (0:Int)) (0:Int))),true),(decide (plcOf E P (wX (wordV (infOf E P)))<0)==decide (plcOf E P (wX (wordV (infOf E P)))<0),true),(decide (atA E P K k n<0)==decide (atA E P K k n<0),true),(decide (Fmt E P)&&(wB (wordV (infOf E P))&&decide (wX (wordV (infOf E P))<2*signOf E P)),true),(decide (Fmt E P),true),(true,true),(decide (inB (upK (fstOf E P K k) (0:Int) (0:Int)) (min (0:Int) (0:Int)))&&decide (inB (upK n (0:Int) (0:Int)) (min (0:Int) (0:Int))),true),(decide (n<0)==decide (n<0),true),(decide (fstOf E P K k<0)==decide (fstOf E P K k<0),true),(decide (-9223372036854775808≤n∧n≤9223372036854775807),true),(decide (Fmt E P)&&(decide (inB K k∧ -40000≤k)&&decide (0≤rndW E P 3 K k∧rndW E P 3 K k<2*signOf E P)),true),(decide (K<0)==decide (K<0),true),(decide (n<0),false),(false,false),(true,true),(true,true),(true,true),(false,false),(false,false),(chkE E P !=0,false),(true,true)]
theorem nt_n(E P K k n:Int):ntRun E P K k n [false,false,false,false,false,false,true,true] 2=some (.tuple #[wordV (wX (wordV (((atA E P K k n).natAbs:Int)*2^(min (0:Int) (0:Int)).toNat))+signOf E P),.int .i64 0],some (.fact 0),nt_n_cs E P K k n):=by kernel_rfl
theorem mag_parts{P s:Int}(hP:2≤P)(h0:0≤s): ∃(f r:Int),s=f*2^(P-1).toNat+r∧0≤f∧0≤r∧r<2^(P-1).toNat∧magOf P s=if f=0 then r else(2^(P-1).toNat+r)*2^(f-1).toNat:=by
 have hp:=p2pos (P-1).toNat
 have h1:=Int.mul_ediv_add_emod s (2^(P-1).toNat)
 have h2:=Int.emod_nonneg s (Int.ne_of_gt hp)
 have h3:=Int.emod_lt_of_pos s hp
 have h4:0≤s/2^(P-1).toNat:=Int.ediv_nonneg h0 (Int.le_of_lt hp)
 refine⟨s/2^(P-1).toNat,s%2^(P-1).toNat,?_,h4,h2,h3,?_⟩
 ·rw[Int.mul_comm];omega
 ·unfold magOf liftOf digOf fieldOf
  generalize s/2^(P-1).toNat=f at*
  generalize s%2^(P-1).toNat=r at*
  generalize (2:Int)^(P-1).toNat=p at*
  by_cases hf:f=0
  ·subst hf
   rw[if_neg (by omega),if_neg (by omega),if_pos rfl]
   simp at h1⊢
   omega
  ·rw[if_pos (by omega),if_pos (by omega),if_neg hf]
   congr 1
   rw[Int.sub_mul,Int.mul_comm f p]
   omega
theorem mag_lt{P s t:Int}(hP:2≤P)(h0:0≤s)(h1:s<t):magOf P s<magOf P t:=by
 obtain⟨f,r,rfl,f0,r0,r1,e1⟩:=mag_parts hP h0
 obtain⟨g,q,rfl,g0,q0,q1,e2⟩:=mag_parts hP (show 0≤t by omega)
 have hp:=p2pos (P-1).toNat
 rw[e1,e2]
 generalize (2:Int)^(P-1).toNat=p at*
 have hfg:f≤g:=by
  apply Classical.byContradiction
  intro hn
  have:(g+1)*p≤f*p:=Int.mul_le_mul_of_nonneg_right (by omega) (by omega)
  rw[Int.add_mul,Int.one_mul]at this
  omega
 by_cases hg:g=0
 ·subst hg
  obtain rfl:f=0:=by omega
  rw[if_pos rfl,if_pos rfl];omega
 ·rw[if_neg hg]
  have hpg:=p2pos (g-1).toNat
  have b2:p*2^(g-1).toNat≤(p+q)*2^(g-1).toNat:=Int.mul_le_mul_of_nonneg_right (by omega) (by omega)
  by_cases hf:f=0
  ·rw[if_pos hf]
   have:=Int.mul_le_mul_of_nonneg_left (show(1:Int)≤2^(g-1).toNat from hpg) (show 0≤p by omega)
   omega
  ·rw[if_neg hf]
   by_cases hfg2:f=g
   ·subst hfg2
    exact Int.mul_lt_mul_of_pos_right (by omega) hpg
   ·have e:(2:Int)^(g-1).toNat=2^(g-1-f).toNat*(2*2^(f-1).toNat):=by
     rw[←Int.mul_assoc,Int.mul_comm (2^_) 2,Int.mul_assoc,←Int.pow_add,show(g-1-f).toNat+(f-1).toNat=(g-1).toNat-1 by omega,Int.mul_comm,←Int.pow_succ]
     congr 1;omega
    have hpf:=p2pos (f-1).toNat
    have b1:(p+r)*2^(f-1).toNat<(2*p)*2^(f-1).toNat:=Int.mul_lt_mul_of_pos_right (by omega) hpf
    have b3:(2*p)*2^(f-1).toNat≤p*2^(g-1).toNat:=by
     rw[e]
     have:=Int.mul_le_mul_of_nonneg_right (show(1:Int)≤2^(g-1-f).toNat from p2pos _) (show(0:Int)≤2*2^(f-1).toNat by omega)
     have h5:=Int.mul_le_mul_of_nonneg_left this (show 0≤p by omega)
     rw[Int.one_mul]at h5
     rw[Int.mul_comm 2 p,Int.mul_assoc]
     exact h5
    omega
theorem mag_inj{P s t:Int}(hP:2≤P)(h0:0≤s)(h1:0≤t)(h:magOf P s=magOf P t):s=t:=by
 rcases Int.lt_trichotomy s t with h2|h2|h2
 ·have:=mag_lt hP h0 h2;omega
 ·exact h2
 ·have:=mag_lt hP h1 h2;omega
theorem mag_pos{P s:Int}(hP:2≤P)(h0:0<s):0<magOf P s:=by
 have h1:=mag_lt hP (Int.le_refl 0) h0
 have h2:magOf P 0=0:=by unfold magOf digOf fieldOf;simp
 omega
theorem word_inj{E P X Y:Int}(h:Fmt E P)(x0:0≤X)(y0:0≤Y)(kx:kindOf E P X=2)(ky:kindOf E P Y=2)(he:opK E P X=opK E P Y):X=Y:=by
 have sx:=kind_two kx
 have sy:=kind_two ky
 have hsg:=sign_range h
 have zx:0<sizW E P X:=by
  have:0≤sizW E P X:=by unfold sizW sizeOf';split<;>omega
  have hz:sizW E P X≠0:=fun hz=>by unfold kindOf at kx;rw[if_pos hz]at kx;omega
  omega
 have zy:0<sizW E P Y:=by
  have:0≤sizW E P Y:=by unfold sizW sizeOf';split<;>omega
  have hz:sizW E P Y≠0:=fun hz=>by unfold kindOf at ky;rw[if_pos hz]at ky;omega
  omega
 have mx:=mag_pos h.2.2.1 zx
 have my:=mag_pos h.2.2.1 zy
 unfold opK at he
 rw[if_pos kx,if_pos ky]at he
 have hs:magOf P (sizW E P X)=magOf P (sizW E P Y)∧negOf E P X=negOf E P Y:=by
  unfold sgM at he
  cases hx:negOf E P X<;>cases hy:negOf E P Y<;>rw[hx,hy]at he<;>simp at he<;>first|exact⟨by omega,rfl⟩|omega
 have hz:=mag_inj h.2.2.1 (by omega) (by omega) hs.1
 have hn:=hs.2
 unfold negOf at hn
 have hn:=decide_eq_decide.1 hn
 unfold sizW sizeOf' at hz
 split at hz<;>split at hz<;>omega
end Go.Proofs.YtedhbbjlbgpafaaGreatDoor
