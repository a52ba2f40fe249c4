/-
  Rounding: its contract.
-/
import Derived.Test.YtedhbbjlbgpafaaGreatDoorP21
set_option linter.unusedVariables false
set_option linter.unusedSimpArgs false
namespace Go.Proofs.YtedhbbjlbgpafaaGreatDoor
open Go.RowKit Go.Shelf Go.Canon
def tO(E K k:Int):Int:=if 0>logI K k-(1-biasOf E)then 0 else logI K k-(1-biasOf E)
def sizeR(E P K k:Int):Int:=tO E K k*2^(P-1).toNat+rD E P K k
def upR(E P m K k:Int):Bool:=upOf (modeOf m (decide (K<0))) (rD E P K k%2==1) (rR E P K k)
def sizeU(E P m K k:Int):Int:=sizeR E P K k+(if upR E P m K k=true then 1 else 0)
def rndW(E P m K k:Int):Int:=
 if K=0 then 0 else if logI K k>biasOf E then ovW E P m (decide (K<0))else if sizeU E P m K k<infOf E P then sizeU E P m K k+(if K<0 then signOf E P else 0)else ovW E P m (decide (K<0))
def rndF(E P m K k:Int):Int:=
 if K=0 then 0 else if logI K k>biasOf E then 20 else if sizeU E P m K k<infOf E P then(if rR E P K k=0 then 0 else if logI K k<1-biasOf E then 24 else 16)else 20
theorem restF_range(A e:Int):0≤restF A e∧restF A e≤3:=by unfold restF;split<;>split<;>omega
theorem modeOf_range{m:Int}(neg:Bool)(h0:0≤m)(h1:m≤4):0≤modeOf m neg∧modeOf m neg≤4:=by unfold modeOf;split<;>(try split)<;>(try split)<;>omega
theorem inf_eq{E P:Int}(h:Fmt E P):infOf E P=(2^E.toNat-1)*2^(P-1).toNat:=by
 obtain⟨h1,h2,h3,h4,h5⟩:=h
 unfold infOf
 rw[show(E+P-1).toNat=E.toNat+(P-1).toNat by omega,Int.pow_add,Int.sub_mul,Int.one_mul]
theorem bias_eq{E:Int}(h0:2≤E):2*biasOf E=2^E.toNat-2:=by
 unfold biasOf
 rw[show E.toNat=(E-1).toNat+1 by omega,Int.pow_succ]
 omega
theorem stepOf_nz{E P K k:Int}(h:K≠0):stepOf E P K k=(if 1-biasOf E>logI K k then 1-biasOf E else logI K k)-P+1:=by unfold stepOf;rw[if_neg h]
theorem halves_lt{E P K k:Int}(hP:2≤P)(h:K≠0):floorK K.natAbs (k+(1-stepOf E P K k))<2^(P+1).toNat:=by
 have hs:logI K k-P+1≤stepOf E P K k:=by rw[stepOf_nz h];split<;>omega
 have hp:0<(K.natAbs:Int):=by omega
 obtain⟨b1,b2,b3⟩:=blen_spec hp
 have hl:logI K k=blen K.natAbs-1+k:=by unfold logI;rw[if_neg h]
 generalize hst:stepOf E P K k=s at*
 unfold floorK
 generalize hB:blen K.natAbs=B at*
 generalize hAe:(K.natAbs:Int)=A at*
 obtain⟨q,hq⟩: ∃q:Nat,P+1=q:=⟨(P+1).toNat,by omega⟩
 rw[hq,Int.toNat_natCast]
 by_cases he:0≤k+(1-s)
 ·obtain⟨e,he2⟩: ∃e:Nat,k+(1-s)=e:=⟨(k+(1-s)).toNat,by omega⟩
  rw[he2,Int.toNat_natCast,show(-(e:Int)).toNat=0 by omega]
  simp only[Int.pow_zero,Int.ediv_one]
  obtain⟨d,hd⟩: ∃d:Nat,q=B+e+d:=⟨q-(B+e),by omega⟩
  rw[hd,Int.pow_add,Int.pow_add]
  have h1:A*2^e<2^B*2^e:=Int.mul_lt_mul_of_pos_right b2 (p2pos e)
  have h2:(2:Int)^B*2^e*1≤2^B*2^e*2^d:=Int.mul_le_mul_of_nonneg_left (p2pos d) (Int.mul_nonneg (Int.le_of_lt (p2pos B)) (Int.le_of_lt (p2pos e)))
  omega
 ·obtain⟨e,he2⟩: ∃e:Nat,k+(1-s)= -(e:Int):=⟨(-(k+(1-s))).toNat,by omega⟩
  rw[he2,show(-(e:Int)).toNat=0 by omega,Int.neg_neg,Int.toNat_natCast]
  simp only[Int.pow_zero,Int.mul_one]
  refine Int.ediv_lt_of_lt_mul (p2pos e) ?_
  by_cases hbe:B≤q+e
  ·obtain⟨d,hd⟩: ∃d:Nat,q+e=B+d:=⟨q+e-B,by omega⟩
   rw[←Int.pow_add,hd,Int.pow_add]
   have h2:(2:Int)^B*1≤2^B*2^d:=Int.mul_le_mul_of_nonneg_left (p2pos d) (Int.le_of_lt (p2pos B))
   omega
  ·omega
theorem rD_lt{E P K k:Int}(hP:2≤P)(h:K≠0):0≤rD E P K k∧rD E P K k<2*2^(P-1).toNat:=by
 have h1:=halves_lt (E:=E) (k:=k) hP h
 have h2:(2:Int)^(P+1).toNat=2*(2*2^(P-1).toNat):=by
  rw[show(P+1).toNat=(P-1).toNat+1+1 by omega,Int.pow_succ,Int.pow_succ];omega
 have h3:0≤floorK K.natAbs (k+(1-stepOf E P K k)):=Int.ediv_nonneg (Int.mul_nonneg (by omega) (Int.le_of_lt (p2pos _))) (Int.le_of_lt (p2pos _))
 unfold rD
 omega
theorem p124_lt{P:Int}(hP:P≤113):(2:Int)^(P+1).toNat≤2^124:=by
 obtain⟨d,hd⟩: ∃d:Nat,124=(P+1).toNat+d:=⟨124-(P+1).toNat,by omega⟩
 rw[hd,Int.pow_add]
 have:=Int.mul_le_mul_of_nonneg_left (show(1:Int)≤2^d from p2pos d) (Int.le_of_lt (p2pos (P+1).toNat))
 omega
theorem p124_sml:(2:Int)^124≤sml:=by
 unfold sml
 rw[show(60000:Nat)=124+59876 from rfl,Int.pow_add]
 have:=Int.mul_le_mul_of_nonneg_left (show(1:Int)≤2^59876 from p2pos _) (Int.le_of_lt (p2pos 124))
 omega
theorem stepsOk_of{E P K k:Int}(h:Fmt E P)(hb:inB K k)(hk: -40000≤k)(h0:K≠0)(hbig:logI K k≤biasOf E):stepsOk K k (stepOf E P K k):=by
 have h1:=halves_lt (E:=E) (k:=k) h.2.2.1 h0
 have h2:=p124_lt h.2.2.2.1
 have h3:=p124_sml
 have hbr:=bias_range h.1 h.2.1
 obtain⟨f1,f2,f3,f4,f5⟩:=h
 have hs:=stepOf_nz (E:=E) (P:=P) (k:=k) h0
 have hlo:1-biasOf E≤stepOf E P K k+P-1∧stepOf E P K k+P-1≤biasOf E:=by rw[hs];split<;>omega
 refine⟨hb,by omega,by omega,by omega,?_,by omega⟩
 by_cases he:0≤k+(1-stepOf E P K k)
 ·have:floorK K.natAbs (k+(1-stepOf E P K k))=K.natAbs*2^(k+(1-stepOf E P K k)).toNat:=by
   unfold floorK
   rw[show(-(k+(1-stepOf E P K k))).toNat=0 by omega]
   simp
  omega
 ·rw[show(k+(1-stepOf E P K k)).toNat=0 by omega]
  have:=hb.1
  have:=hb.2.1
  simp only[Int.pow_zero,Int.mul_one]
  omega
theorem sizeR_lt{E P K k:Int}(h:Fmt E P)(h0:K≠0)(hbig:logI K k≤biasOf E):0≤tO E K k∧0≤sizeR E P K k∧sizeR E P K k<infOf E P∧tO E K k*2^(P-1).toNat<infOf E P:=by
 have hd:=rD_lt (E:=E) (k:=k) h.2.2.1 h0
 have hi:=inf_eq h
 have hb:=bias_eq h.1
 have hbr:=bias_range h.1 h.2.1
 have ht:0≤tO E K k∧tO E K k≤2^E.toNat-3:=by unfold tO;split<;>omega
 have hp:=p2pos (P-1).toNat
 have hm:=Int.mul_le_mul_of_nonneg_right ht.2 (Int.le_of_lt hp)
 have hm0:=Int.mul_nonneg ht.1 (Int.le_of_lt hp)
 unfold sizeR
 rw[Int.sub_mul]at hm hi
 generalize tO E K k*2^(P-1).toNat=X at*
 generalize (2:Int)^E.toNat*2^(P-1).toNat=Y at*
 generalize (2:Int)^(P-1).toNat=p at*
 omega
theorem round_con{E P m K k:Int}(h:Fmt E P)(m0:0≤m)(m1:m≤4)(hb:inB K k)(hk: -40000≤k):Con Tryz.prog TR 96 [.v (machV E P m),.n K k] ⟨none,.tuple #[wordV (rndW E P m K k),.int .i64 (rndF E P m K k)]⟩:=by
 have hgr:=groundMN E P m K k
 have hinf:=inf_range h
 have hsg:=sign_range h
 have hlr:=logI_range hb
 have hbr:=bias_range h.1 h.2.1
 by_cases h0:K=0
 ·subst h0
  refine con_plain roundC_ok (round_zero E P m 0 k) (by simp[cs0,logE,hb]) (by simp) hgr ?_ rfl
  simp[rndW,rndF,wordV]
 have hz:(logE K !=0)=false:=by simp[logE,h0]
 have c0: ∀c∈cs0 K k false,c.1=c.2:=by simp[cs0,hz,hb]
 have hsgn:decide (sgI K<0)=decide (K<0):=by unfold sgI;rw[if_neg h0];split<;>simp_all
 have c1: ∀neg big,decide (K<0)=neg→decide (logI K k>biasOf E)=big→ ∀c∈cs1 E P m K k neg big,c.1=c.2:=by
  intro neg big e1 e2
  unfold cs1
  simp only[List.forall_mem_cons]
  exact⟨e2,decide_eq_true h,decide_eq_true ⟨m0,m1⟩,hsgn.trans e1,trivial,by simp,hsgn.trans e1,trivial,by simp,c0⟩
 have c5: ∀l,(∀c∈l,c.1=c.2)→ ∀c∈cs5 E P m l,c.1=c.2:=by
  intro l hl
  unfold cs5
  simp only[List.forall_mem_cons]
  exact⟨trivial,by simp[h,m0,m1],hl⟩
 by_cases hbig:logI K k>biasOf E
 ·have vW:rndW E P m K k=ovW E P m (decide (K<0)):=by unfold rndW;rw[if_neg h0,if_pos hbig]
  have vF:rndF E P m K k=20:=by unfold rndF;rw[if_neg h0,if_pos hbig]
  rw[vW,vF]
  cases hn:decide (K<0)
  ·exact con_plain roundC_ok (round_big_f E P m K k) (c5 _ (c1 _ _ hn (by simpa using hbig))) (by simp) hgr rfl rfl
  ·exact con_plain roundC_ok (round_big_t E P m K k) (c5 _ (c1 _ _ hn (by simpa using hbig))) (by simp) hgr rfl rfl
 have hle:logI K k≤biasOf E:=by omega
 have hbg:decide (logI K k>biasOf E)=false:=by simpa using hle
 obtain⟨t0,s0,s1,s2⟩:=sizeR_lt (P:=P) h h0 hle
 have hdr:=rD_lt (E:=E) (k:=k) h.2.2.1 h0
 have hso:=stepsOk_of h hb hk h0 hle
 have hrr:=restF_range K.natAbs (k+(1-stepOf E P K k))
 have wT:rT E K k=tO E K k:=by
  unfold rT
  have e1:IntKind.i64.wrap (logI K k-(1-biasOf E))=logI K k-(1-biasOf E):=wrapI (by omega)
  rw[e1]
  show IntKind.u64.wrap (tO E K k)=tO E K k
  have:tO E K k≤200000:=by unfold tO;split<;>omega
  rw[IntKind.wrap_u64]
  omega
 have wP:IntKind.i64.wrap (P-1)=P-1:=wrapI (by have:=h.2.2.1;have:=h.2.2.2.1;omega)
 have wA:wX (.agg #[.int .u64 0,.int .u64 (tO E K k)])=tO E K k:=by
  show 0*18446744073709551616+tO E K k=tO E K k
  omega
 have wAB:wB (.agg #[.int .u64 0,.int .u64 (tO E K k)])=true:=by
  have:tO E K k≤200000:=by unfold tO;split<;>omega
  exact decide_eq_true ⟨by omega,by omega,t0,by omega⟩
 have eL:rL E P K k=wordV (tO E K k*2^(P-1).toNat):=by
  unfold rL
  rw[wT,wP,wA,Int.emod_eq_of_lt (Int.mul_nonneg t0 (Int.le_of_lt (p2pos _))) (by omega)]
 have eS:rS E P K k=wordV (sizeR E P K k):=by
  unfold rS
  rw[eL,wX_wordV,wX_wordV]
  show wordV (sizeR E P K k%two128)=_
  rw[Int.emod_eq_of_lt s0 (by omega)]
 have eU:rU E P K k=wordV (sizeR E P K k+1):=by
  unfold rU
  rw[eS,wX_wordV,wX_wordV,Int.emod_eq_of_lt (by omega) (by omega)]
 have bD:wB (wordV (rD E P K k))=true:=wB_wordV hdr.1 (by unfold sizeR at s1;have:=Int.mul_nonneg t0 (Int.le_of_lt (p2pos (P-1).toNat));omega)
 have bL:wB (rL E P K k)=true:=by rw[eL];exact wB_wordV (Int.mul_nonneg t0 (Int.le_of_lt (p2pos _))) (by omega)
 have b1:wB (wordV 1)=true:=wB_wordV (by omega) (by rw[two128_eq];omega)
 have bI:wB (wordV (infOf E P))=true:=wB_wordV (by omega) (by omega)
 have hbit:bits BinOp.and IntKind.u64 (rD E P K k%18446744073709551616) 1=rD E P K k%2:=by
  rw[and_one_u64 _ (by omega) (by omega)];omega
 have c2: ∀neg odd up,decide (K<0)=neg→(rD E P K k%2==1)=odd→upOf (modeOf m neg) odd (rR E P K k)=up→ ∀c∈cs2 E P m K k neg odd up,c.1=c.2:=by
  intro neg odd up e1 e2 e3
  have hmr:=modeOf_range neg m0 m1
  unfold cs2
  simp only[List.forall_mem_cons]
  refine⟨e3,decide_eq_true ⟨hmr.1,hmr.2,hrr.1,hrr.2⟩,by rw[hbit];exact e2,trivial,trivial,by rw[bL,bD];rfl,?_,trivial,decide_eq_true h,trivial,decide_eq_true hso,by simp,by simp[h,hb],by simp,c1 _ _ e1 hbg⟩
  rw[wT,wAB,wP,decide_eq_true (by have:=h.2.2.1;have:=h.2.2.2.1;omega)];rfl
 have c3: ∀neg odd,decide (K<0)=neg→(rD E P K k%2==1)=odd→upOf (modeOf m neg) odd (rR E P K k)=true→ ∀c∈cs3 E P m K k neg odd,c.1=c.2:=by
  intro neg odd e1 e2 e3
  unfold cs3
  simp only[List.forall_mem_cons]
  exact⟨trivial,by rw[eS,wB_wordV s0 (by omega),b1];rfl,trivial,c2 _ _ _ e1 e2 e3⟩
 have c4: ∀S lt l,0≤S→S≤infOf E P→decide (S<infOf E P)=lt→(∀c∈l,c.1=c.2)→ ∀c∈cs4 E P m (wordV S) lt l,c.1=c.2:=by
  intro S lt l g1 g2 e hl
  unfold cs4
  simp only[List.forall_mem_cons,wX_wordV]
  exact⟨e,by rw[wB_wordV g1 (by omega),bI];rfl,decide_eq_true h,hl⟩
 have c6: ∀S l,0≤S→S<infOf E P→(∀c∈l,c.1=c.2)→ ∀c∈cs6 E P (wordV S) l,c.1=c.2:=by
  intro S l g1 g2 hl
  have g3:S<signOf E P:=by have:=hinf.2.1;unfold signOf;omega
  unfold cs6
  simp only[List.forall_mem_cons,wX_wordV]
  exact⟨trivial,by simp[h,wB_wordV g1 (by omega),g3],hl⟩
 have c7: ∀tiny l,rR E P K k≠0→decide (logI K k<1-biasOf E)=tiny→(∀c∈l,c.1=c.2)→ ∀c∈cs7 E P K k tiny l,c.1=c.2:=by
  intro tiny l g1 e hl
  unfold cs7
  simp only[List.forall_mem_cons]
  exact⟨e,decide_eq_true h,by simpa using g1,hl⟩
 have vO: ¬sizeU E P m K k<infOf E P→rndW E P m K k=ovW E P m (decide (K<0))∧rndF E P m K k=20:=fun g=>by
  unfold rndW rndF;rw[if_neg h0,if_neg hbig,if_neg g,if_neg h0,if_neg hbig,if_neg g];exact⟨rfl,rfl⟩
 have vI:sizeU E P m K k<infOf E P→rndW E P m K k=sizeU E P m K k+(if K<0 then signOf E P else 0)∧rndF E P m K k=(if rR E P K k=0 then 0 else if logI K k<1-biasOf E then 24 else 16):=fun g=>by
  unfold rndW rndF;rw[if_neg h0,if_neg hbig,if_pos g,if_neg h0,if_neg hbig,if_pos g];exact⟨rfl,rfl⟩
 have leaf: ∀(neg odd up:Bool),decide (K<0)=neg→(rD E P K k%2==1)=odd→upOf (modeOf m neg) odd (rR E P K k)=up→upR E P m K k=up:=by
  intro neg odd up e1 e2 e3;unfold upR;rw[e1,e2,e3]
 cases hn:decide (K<0)
 ·have hK: ¬K<0:=by simpa using hn
  cases ho:(rD E P K k%2==1)
  ·cases hu:upOf (modeOf m false) false (rR E P K k)
   ·have hsz:sizeU E P m K k=(sizeR E P K k):=by unfold sizeU;rw[leaf _ _ _ hn ho hu];simp
    by_cases hlt:(sizeR E P K k)<infOf E P
    ·obtain⟨vW,vF⟩:=vI (by rw[hsz];exact hlt)
     rw[vW,vF,hsz,if_neg hK,Int.add_zero]
     by_cases hr:rR E P K k=0
     ·rw[if_pos hr]
      have hrun:=round_fff_e E P m K k
      rw[eS]at hrun
      refine con_plain roundC_ok hrun (c6 _ _ (by omega) (by omega) ?_) (by simp) hgr (by rw[wX_wordV]) rfl
      simp only[List.forall_mem_cons]
      exact⟨by simp[hr],c4 _ _ _ (by omega) (by omega) (decide_eq_true hlt) (c2 _ _ _ hn ho hu)⟩
     ·rw[if_neg hr]
      by_cases ht:logI K k<1-biasOf E
      ·rw[if_pos ht]
       have hrun:=round_fff_t E P m K k
       rw[eS]at hrun
       exact con_plain roundC_ok hrun (c6 _ _ (by omega) (by omega) (c7 _ _ hr (decide_eq_true ht) (c4 _ _ _ (by omega) (by omega) (decide_eq_true hlt) (c2 _ _ _ hn ho hu)))) (by simp) hgr (by rw[wX_wordV]) rfl
      ·rw[if_neg ht]
       have hrun:=round_fff_i E P m K k
       rw[eS]at hrun
       exact con_plain roundC_ok hrun (c6 _ _ (by omega) (by omega) (c7 _ _ hr (decide_eq_false ht) (c4 _ _ _ (by omega) (by omega) (decide_eq_true hlt) (c2 _ _ _ hn ho hu)))) (by simp) hgr (by rw[wX_wordV]) rfl
    ·obtain⟨vW,vF⟩:=vO (by rw[hsz];exact hlt)
     rw[vW,vF,hn]
     have hrun:=round_fff_o E P m K k
     rw[eS]at hrun
     exact con_plain roundC_ok hrun (c5 _ (c4 _ _ _ (by omega) (by omega) (decide_eq_false hlt) (c2 _ _ _ hn ho hu))) (by simp) hgr rfl rfl
   ·have hsz:sizeU E P m K k=(sizeR E P K k+1):=by unfold sizeU;rw[leaf _ _ _ hn ho hu];simp
    by_cases hlt:(sizeR E P K k+1)<infOf E P
    ·obtain⟨vW,vF⟩:=vI (by rw[hsz];exact hlt)
     rw[vW,vF,hsz,if_neg hK,Int.add_zero]
     by_cases hr:rR E P K k=0
     ·rw[if_pos hr]
      have hrun:=round_fft_e E P m K k
      rw[eU]at hrun
      refine con_plain roundC_ok hrun (c6 _ _ (by omega) (by omega) ?_) (by simp) hgr (by rw[wX_wordV]) rfl
      simp only[List.forall_mem_cons]
      exact⟨by simp[hr],c4 _ _ _ (by omega) (by omega) (decide_eq_true hlt) (c3 _ _ hn ho hu)⟩
     ·rw[if_neg hr]
      by_cases ht:logI K k<1-biasOf E
      ·rw[if_pos ht]
       have hrun:=round_fft_t E P m K k
       rw[eU]at hrun
       exact con_plain roundC_ok hrun (c6 _ _ (by omega) (by omega) (c7 _ _ hr (decide_eq_true ht) (c4 _ _ _ (by omega) (by omega) (decide_eq_true hlt) (c3 _ _ hn ho hu)))) (by simp) hgr (by rw[wX_wordV]) rfl
      ·rw[if_neg ht]
       have hrun:=round_fft_i E P m K k
       rw[eU]at hrun
       exact con_plain roundC_ok hrun (c6 _ _ (by omega) (by omega) (c7 _ _ hr (decide_eq_false ht) (c4 _ _ _ (by omega) (by omega) (decide_eq_true hlt) (c3 _ _ hn ho hu)))) (by simp) hgr (by rw[wX_wordV]) rfl
    ·obtain⟨vW,vF⟩:=vO (by rw[hsz];exact hlt)
     rw[vW,vF,hn]
     have hrun:=round_fft_o E P m K k
     rw[eU]at hrun
     exact con_plain roundC_ok hrun (c5 _ (c4 _ _ _ (by omega) (by omega) (decide_eq_false hlt) (c3 _ _ hn ho hu))) (by simp) hgr rfl rfl
  ·cases hu:upOf (modeOf m false) true (rR E P K k)
   ·have hsz:sizeU E P m K k=(sizeR E P K k):=by unfold sizeU;rw[leaf _ _ _ hn ho hu];simp
    by_cases hlt:(sizeR E P K k)<infOf E P
    ·obtain⟨vW,vF⟩:=vI (by rw[hsz];exact hlt)
     rw[vW,vF,hsz,if_neg hK,Int.add_zero]
     by_cases hr:rR E P K k=0
     ·rw[if_pos hr]
      have hrun:=round_ftf_e E P m K k
      rw[eS]at hrun
      refine con_plain roundC_ok hrun (c6 _ _ (by omega) (by omega) ?_) (by simp) hgr (by rw[wX_wordV]) rfl
      simp only[List.forall_mem_cons]
      exact⟨by simp[hr],c4 _ _ _ (by omega) (by omega) (decide_eq_true hlt) (c2 _ _ _ hn ho hu)⟩
     ·rw[if_neg hr]
      by_cases ht:logI K k<1-biasOf E
      ·rw[if_pos ht]
       have hrun:=round_ftf_t E P m K k
       rw[eS]at hrun
       exact con_plain roundC_ok hrun (c6 _ _ (by omega) (by omega) (c7 _ _ hr (decide_eq_true ht) (c4 _ _ _ (by omega) (by omega) (decide_eq_true hlt) (c2 _ _ _ hn ho hu)))) (by simp) hgr (by rw[wX_wordV]) rfl
      ·rw[if_neg ht]
       have hrun:=round_ftf_i E P m K k
       rw[eS]at hrun
       exact con_plain roundC_ok hrun (c6 _ _ (by omega) (by omega) (c7 _ _ hr (decide_eq_false ht) (c4 _ _ _ (by omega) (by omega) (decide_eq_true hlt) (c2 _ _ _ hn ho hu)))) (by simp) hgr (by rw[wX_wordV]) rfl
    ·obtain⟨vW,vF⟩:=vO (by rw[hsz];exact hlt)
     rw[vW,vF,hn]
     have hrun:=round_ftf_o E P m K k
     rw[eS]at hrun
     exact con_plain roundC_ok hrun (c5 _ (c4 _ _ _ (by omega) (by omega) (decide_eq_false hlt) (c2 _ _ _ hn ho hu))) (by simp) hgr rfl rfl
   ·have hsz:sizeU E P m K k=(sizeR E P K k+1):=by unfold sizeU;rw[leaf _ _ _ hn ho hu];simp
    by_cases hlt:(sizeR E P K k+1)<infOf E P
    ·obtain⟨vW,vF⟩:=vI (by rw[hsz];exact hlt)
     rw[vW,vF,hsz,if_neg hK,Int.add_zero]
     by_cases hr:rR E P K k=0
     ·rw[if_pos hr]
      have hrun:=round_ftt_e E P m K k
      rw[eU]at hrun
      refine con_plain roundC_ok hrun (c6 _ _ (by omega) (by omega) ?_) (by simp) hgr (by rw[wX_wordV]) rfl
      simp only[List.forall_mem_cons]
      exact⟨by simp[hr],c4 _ _ _ (by omega) (by omega) (decide_eq_true hlt) (c3 _ _ hn ho hu)⟩
     ·rw[if_neg hr]
      by_cases ht:logI K k<1-biasOf E
      ·rw[if_pos ht]
       have hrun:=round_ftt_t E P m K k
       rw[eU]at hrun
       exact con_plain roundC_ok hrun (c6 _ _ (by omega) (by omega) (c7 _ _ hr (decide_eq_true ht) (c4 _ _ _ (by omega) (by omega) (decide_eq_true hlt) (c3 _ _ hn ho hu)))) (by simp) hgr (by rw[wX_wordV]) rfl
      ·rw[if_neg ht]
       have hrun:=round_ftt_i E P m K k
       rw[eU]at hrun
       exact con_plain roundC_ok hrun (c6 _ _ (by omega) (by omega) (c7 _ _ hr (decide_eq_false ht) (c4 _ _ _ (by omega) (by omega) (decide_eq_true hlt) (c3 _ _ hn ho hu)))) (by simp) hgr (by rw[wX_wordV]) rfl
    ·obtain⟨vW,vF⟩:=vO (by rw[hsz];exact hlt)
     rw[vW,vF,hn]
     have hrun:=round_ftt_o E P m K k
     rw[eU]at hrun
     exact con_plain roundC_ok hrun (c5 _ (c4 _ _ _ (by omega) (by omega) (decide_eq_false hlt) (c3 _ _ hn ho hu))) (by simp) hgr rfl rfl
 ·have hK:K<0:=by simpa using hn
  cases ho:(rD E P K k%2==1)
  ·cases hu:upOf (modeOf m true) false (rR E P K k)
   ·have hsz:sizeU E P m K k=(sizeR E P K k):=by unfold sizeU;rw[leaf _ _ _ hn ho hu];simp
    by_cases hlt:(sizeR E P K k)<infOf E P
    ·obtain⟨vW,vF⟩:=vI (by rw[hsz];exact hlt)
     rw[vW,vF,hsz,if_pos hK]
     by_cases hr:rR E P K k=0
     ·rw[if_pos hr]
      have hrun:=round_tff_e E P m K k
      rw[eS]at hrun
      refine con_plain roundC_ok hrun (c6 _ _ (by omega) (by omega) ?_) (by simp) hgr (by rw[wX_wordV]) rfl
      simp only[List.forall_mem_cons]
      exact⟨by simp[hr],c4 _ _ _ (by omega) (by omega) (decide_eq_true hlt) (c2 _ _ _ hn ho hu)⟩
     ·rw[if_neg hr]
      by_cases ht:logI K k<1-biasOf E
      ·rw[if_pos ht]
       have hrun:=round_tff_t E P m K k
       rw[eS]at hrun
       exact con_plain roundC_ok hrun (c6 _ _ (by omega) (by omega) (c7 _ _ hr (decide_eq_true ht) (c4 _ _ _ (by omega) (by omega) (decide_eq_true hlt) (c2 _ _ _ hn ho hu)))) (by simp) hgr (by rw[wX_wordV]) rfl
      ·rw[if_neg ht]
       have hrun:=round_tff_i E P m K k
       rw[eS]at hrun
       exact con_plain roundC_ok hrun (c6 _ _ (by omega) (by omega) (c7 _ _ hr (decide_eq_false ht) (c4 _ _ _ (by omega) (by omega) (decide_eq_true hlt) (c2 _ _ _ hn ho hu)))) (by simp) hgr (by rw[wX_wordV]) rfl
    ·obtain⟨vW,vF⟩:=vO (by rw[hsz];exact hlt)
     rw[vW,vF,hn]
     have hrun:=round_tff_o E P m K k
     rw[eS]at hrun
     exact con_plain roundC_ok hrun (c5 _ (c4 _ _ _ (by omega) (by omega) (decide_eq_false hlt) (c2 _ _ _ hn ho hu))) (by simp) hgr rfl rfl
   ·have hsz:sizeU E P m K k=(sizeR E P K k+1):=by unfold sizeU;rw[leaf _ _ _ hn ho hu];simp
    by_cases hlt:(sizeR E P K k+1)<infOf E P
    ·obtain⟨vW,vF⟩:=vI (by rw[hsz];exact hlt)
     rw[vW,vF,hsz,if_pos hK]
     by_cases hr:rR E P K k=0
     ·rw[if_pos hr]
      have hrun:=round_tft_e E P m K k
      rw[eU]at hrun
      refine con_plain roundC_ok hrun (c6 _ _ (by omega) (by omega) ?_) (by simp) hgr (by rw[wX_wordV]) rfl
      simp only[List.forall_mem_cons]
      exact⟨by simp[hr],c4 _ _ _ (by omega) (by omega) (decide_eq_true hlt) (c3 _ _ hn ho hu)⟩
     ·rw[if_neg hr]
      by_cases ht:logI K k<1-biasOf E
      ·rw[if_pos ht]
       have hrun:=round_tft_t E P m K k
       rw[eU]at hrun
       exact con_plain roundC_ok hrun (c6 _ _ (by omega) (by omega) (c7 _ _ hr (decide_eq_true ht) (c4 _ _ _ (by omega) (by omega) (decide_eq_true hlt) (c3 _ _ hn ho hu)))) (by simp) hgr (by rw[wX_wordV]) rfl
      ·rw[if_neg ht]
       have hrun:=round_tft_i E P m K k
       rw[eU]at hrun
       exact con_plain roundC_ok hrun (c6 _ _ (by omega) (by omega) (c7 _ _ hr (decide_eq_false ht) (c4 _ _ _ (by omega) (by omega) (decide_eq_true hlt) (c3 _ _ hn ho hu)))) (by simp) hgr (by rw[wX_wordV]) rfl
    ·obtain⟨vW,vF⟩:=vO (by rw[hsz];exact hlt)
     rw[vW,vF,hn]
     have hrun:=round_tft_o E P m K k
     rw[eU]at hrun
     exact con_plain roundC_ok hrun (c5 _ (c4 _ _ _ (by omega) (by omega) (decide_eq_false hlt) (c3 _ _ hn ho hu))) (by simp) hgr rfl rfl
  ·cases hu:upOf (modeOf m true) true (rR E P K k)
   ·have hsz:sizeU E P m K k=(sizeR E P K k):=by unfold sizeU;rw[leaf _ _ _ hn ho hu];simp
    by_cases hlt:(sizeR E P K k)<infOf E P
    ·obtain⟨vW,vF⟩:=vI (by rw[hsz];exact hlt)
     rw[vW,vF,hsz,if_pos hK]
     by_cases hr:rR E P K k=0
     ·rw[if_pos hr]
      have hrun:=round_ttf_e E P m K k
      rw[eS]at hrun
      refine con_plain roundC_ok hrun (c6 _ _ (by omega) (by omega) ?_) (by simp) hgr (by rw[wX_wordV]) rfl
      simp only[List.forall_mem_cons]
      exact⟨by simp[hr],c4 _ _ _ (by omega) (by omega) (decide_eq_true hlt) (c2 _ _ _ hn ho hu)⟩
     ·rw[if_neg hr]
      by_cases ht:logI K k<1-biasOf E
      ·rw[if_pos ht]
       have hrun:=round_ttf_t E P m K k
       rw[eS]at hrun
       exact con_plain roundC_ok hrun (c6 _ _ (by omega) (by omega) (c7 _ _ hr (decide_eq_true ht) (c4 _ _ _ (by omega) (by omega) (decide_eq_true hlt) (c2 _ _ _ hn ho hu)))) (by simp) hgr (by rw[wX_wordV]) rfl
      ·rw[if_neg ht]
       have hrun:=round_ttf_i E P m K k
       rw[eS]at hrun
       exact con_plain roundC_ok hrun (c6 _ _ (by omega) (by omega) (c7 _ _ hr (decide_eq_false ht) (c4 _ _ _ (by omega) (by omega) (decide_eq_true hlt) (c2 _ _ _ hn ho hu)))) (by simp) hgr (by rw[wX_wordV]) rfl
    ·obtain⟨vW,vF⟩:=vO (by rw[hsz];exact hlt)
     rw[vW,vF,hn]
     have hrun:=round_ttf_o E P m K k
     rw[eS]at hrun
     exact con_plain roundC_ok hrun (c5 _ (c4 _ _ _ (by omega) (by omega) (decide_eq_false hlt) (c2 _ _ _ hn ho hu))) (by simp) hgr rfl rfl
   ·have hsz:sizeU E P m K k=(sizeR E P K k+1):=by unfold sizeU;rw[leaf _ _ _ hn ho hu];simp
    by_cases hlt:(sizeR E P K k+1)<infOf E P
    ·obtain⟨vW,vF⟩:=vI (by rw[hsz];exact hlt)
     rw[vW,vF,hsz,if_pos hK]
     by_cases hr:rR E P K k=0
     ·rw[if_pos hr]
      have hrun:=round_ttt_e E P m K k
      rw[eU]at hrun
      refine con_plain roundC_ok hrun (c6 _ _ (by omega) (by omega) ?_) (by simp) hgr (by rw[wX_wordV]) rfl
      simp only[List.forall_mem_cons]
      exact⟨by simp[hr],c4 _ _ _ (by omega) (by omega) (decide_eq_true hlt) (c3 _ _ hn ho hu)⟩
     ·rw[if_neg hr]
      by_cases ht:logI K k<1-biasOf E
      ·rw[if_pos ht]
       have hrun:=round_ttt_t E P m K k
       rw[eU]at hrun
       exact con_plain roundC_ok hrun (c6 _ _ (by omega) (by omega) (c7 _ _ hr (decide_eq_true ht) (c4 _ _ _ (by omega) (by omega) (decide_eq_true hlt) (c3 _ _ hn ho hu)))) (by simp) hgr (by rw[wX_wordV]) rfl
      ·rw[if_neg ht]
       have hrun:=round_ttt_i E P m K k
       rw[eU]at hrun
       exact con_plain roundC_ok hrun (c6 _ _ (by omega) (by omega) (c7 _ _ hr (decide_eq_false ht) (c4 _ _ _ (by omega) (by omega) (decide_eq_true hlt) (c3 _ _ hn ho hu)))) (by simp) hgr (by rw[wX_wordV]) rfl
    ·obtain⟨vW,vF⟩:=vO (by rw[hsz];exact hlt)
     rw[vW,vF,hn]
     have hrun:=round_ttt_o E P m K k
     rw[eU]at hrun
     exact con_plain roundC_ok hrun (c5 _ (c4 _ _ _ (by omega) (by omega) (decide_eq_false hlt) (c3 _ _ hn ho hu))) (by simp) hgr rfl rfl
def roundS(xs:List Ar):Option Res:=match xs with
 |[.v a,.n K k]=>match mach3 a with
  |some (E,P,m)=>some (⟨none,.tuple #[wordV (rndW E P m K k),.int .i64 (rndF E P m K k)]⟩:Res)
  |none=>none
 |_=>none
def roundP(xs:List Ar):Bool:=match xs with
 |[.v a,.n K k]=>match mach3 a with
  |some (E,P,m)=>decide (Fmt E P)&&(decide (0≤m∧m≤4)&&decide (inB K k∧ -40000≤k))
  |none=>false
 |_=>false
def roundO:CF→St→Option (Value×St):=oracle 96 (conSpec TR roundP roundS)
theorem roundO_ok:RunOkE Tryz.prog roundO:=con_oracle numG gTR roTR2 fun xs R h hp=>by
 unfold roundS at h
 split at h
 ·split at h
  ·rename_i hm
   injection h with h
   subst h
   unfold roundP at hp
   simp only[hm,Bool.and_eq_true]at hp
   rw[mach3_ok hm]
   have h2:=of_decide_eq_true hp.2.1
   have h3:=of_decide_eq_true hp.2.2
   exact round_con (of_decide_eq_true hp.1) h2.1 h2.2 h3.1 h3.2
  ·cases h
 ·cases h
end Go.Proofs.YtedhbbjlbgpafaaGreatDoor
