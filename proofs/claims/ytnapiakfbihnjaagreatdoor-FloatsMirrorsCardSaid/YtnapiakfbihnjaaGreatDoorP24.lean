/-
  Rounding: its contract.
-/
import Derived.Test.YtnapiakfbihnjaaGreatDoorP23
set_option linter.unusedVariables false
set_option linter.unusedSimpArgs false
namespace Go.Proofs.YtnapiakfbihnjaaGreatDoor
open Go.RowKit Go.Shelf Go.Canon
def tO(E K k:Int):Int:=if 0>eu K k-(1-aH E)then 0 else eu K k-(1-aH E)
def jo(E P K k:Int):Int:=tO E K k*2^(P-1).toNat+rD E P K k
def Y5(E P m K k:Int):Bool:=nU (dm m (decide (K<0))) (rD E P K k%2==1) (rR E P K k)
def iq(E P m K k:Int):Int:=jo E P K k+(if Y5 E P m K k=true then 1 else 0)
def mY(E P m K k:Int):Int:=
 if K=0 then 0 else if eu K k>aH E then kR E P m (decide (K<0))else if iq E P m K k<aB E P then iq E P m K k+(if K<0 then ai E P else 0)else kR E P m (decide (K<0))
def mZ(E P m K k:Int):Int:=
 if K=0 then 0 else if eu K k>aH E then 20 else if iq E P m K k<aB E P then(if rR E P K k=0 then 0 else if eu K k<1-aH E then 24 else 16)else 20
theorem Ym(A e:Int):0≤Ci A e∧Ci A e≤3:=by unfold Ci;split<;>split<;>omega
theorem Ha{m:Int}(neg:Bool)(h0:0≤m)(h1:m≤4):0≤dm m neg∧dm m neg≤4:=by unfold dm;split<;>(try split)<;>(try split)<;>omega
theorem Wx{E P:Int}(h:aG E P):aB E P=(2^E.toNat-1)*2^(P-1).toNat:=by
 obtain⟨h1,h2,h3,h4,h5⟩:=h
 unfold aB
 rw[show(E+P-1).toNat=E.toNat+(P-1).toNat by omega,Int.pow_add,Int.sub_mul,Int.one_mul]
theorem N9{E:Int}(h0:2≤E):2*aH E=2^E.toNat-2:=by
 unfold aH
 rw[show E.toNat=(E-1).toNat+1 by omega,Int.pow_succ]
 omega
theorem Qk{E P K k:Int}(h:K≠0):stepOf E P K k=(if 1-aH E>eu K k then 1-aH E else eu K k)-P+1:=by unfold stepOf;rw[if_neg h]
theorem Ql{E P K k:Int}(hP:2≤P)(h:K≠0):lW K.natAbs (k+(1-stepOf E P K k))<2^(P+1).toNat:=by
 have hs:eu K k-P+1≤stepOf E P K k:=by rw[Qk h];split<;>omega
 have hp:0<(K.natAbs:Int):=by omega
 obtain⟨b1,b2,b3⟩:=eF hp
 have hl:eu K k=aQ K.natAbs-1+k:=by unfold eu;rw[if_neg h]
 generalize hst:stepOf E P K k=s at*
 unfold lW
 generalize hB:aQ K.natAbs=B at*
 generalize hAe:(K.natAbs:Int)=A at*
 obtain⟨q,hq⟩: ∃q:Nat,P+1=q:=⟨(P+1).toNat,by omega⟩
 rw[hq,Int.toNat_natCast]
 by_cases he:0≤k+(1-s)
 ·obtain⟨e,he2⟩: ∃e:Nat,k+(1-s)=e:=⟨(k+(1-s)).toNat,by omega⟩
  rw[he2,Int.toNat_natCast,show(-(e:Int)).toNat=0 by omega]
  simp only[Int.pow_zero,Int.ediv_one]
  obtain⟨d,hd⟩: ∃d:Nat,q=B+e+d:=⟨q-(B+e),by omega⟩
  rw[hd,Int.pow_add,Int.pow_add]
  have h1:A*2^e<2^B*2^e:=Int.mul_lt_mul_of_pos_right b2 (au e)
  have h2:(2:Int)^B*2^e*1≤2^B*2^e*2^d:=Int.mul_le_mul_of_nonneg_left (au d) (Int.mul_nonneg (Int.le_of_lt (au B)) (Int.le_of_lt (au e)))
  omega
 ·obtain⟨e,he2⟩: ∃e:Nat,k+(1-s)= -(e:Int):=⟨(-(k+(1-s))).toNat,by omega⟩
  rw[he2,show(-(e:Int)).toNat=0 by omega,Int.neg_neg,Int.toNat_natCast]
  simp only[Int.pow_zero,Int.mul_one]
  refine Int.ediv_lt_of_lt_mul (au e) ?_
  by_cases hbe:B≤q+e
  ·obtain⟨d,hd⟩: ∃d:Nat,q+e=B+d:=⟨q+e-B,by omega⟩
   rw[←Int.pow_add,hd,Int.pow_add]
   have h2:(2:Int)^B*1≤2^B*2^d:=Int.mul_le_mul_of_nonneg_left (au d) (Int.le_of_lt (au B))
   omega
  ·omega
theorem am4{E P K k:Int}(hP:2≤P)(h:K≠0):0≤rD E P K k∧rD E P K k<2*2^(P-1).toNat:=by
 have h1:=Ql (E:=E) (k:=k) hP h
 have h2:(2:Int)^(P+1).toNat=2*(2*2^(P-1).toNat):=by
  rw[show(P+1).toNat=(P-1).toNat+1+1 by omega,Int.pow_succ,Int.pow_succ];omega
 have h3:0≤lW K.natAbs (k+(1-stepOf E P K k)):=Int.ediv_nonneg (Int.mul_nonneg (by omega) (Int.le_of_lt (au _))) (Int.le_of_lt (au _))
 unfold rD
 omega
theorem ZF{P:Int}(hP:P≤113):(2:Int)^(P+1).toNat≤2^124:=by
 obtain⟨d,hd⟩: ∃d:Nat,124=(P+1).toNat+d:=⟨124-(P+1).toNat,by omega⟩
 rw[hd,Int.pow_add]
 have:=Int.mul_le_mul_of_nonneg_left (show(1:Int)≤2^d from au d) (Int.le_of_lt (au (P+1).toNat))
 omega
theorem WO:(2:Int)^124≤gz:=by
 unfold gz
 rw[show(60000:Nat)=124+59876 from rfl,Int.pow_add]
 have:=Int.mul_le_mul_of_nonneg_left (show(1:Int)≤2^59876 from au _) (Int.le_of_lt (au 124))
 omega
theorem aci{E P K k:Int}(h:aG E P)(hb:inB K k)(hk: -40000≤k)(h0:K≠0)(hbig:eu K k≤aH E):zx K k (stepOf E P K k):=by
 have h1:=Ql (E:=E) (k:=k) h.2.2.1 h0
 have h2:=ZF h.2.2.2.1
 have h3:=WO
 have hbr:=dN h.1 h.2.1
 obtain⟨f1,f2,f3,f4,f5⟩:=h
 have hs:=Qk (E:=E) (P:=P) (k:=k) h0
 have hlo:1-aH E≤stepOf E P K k+P-1∧stepOf E P K k+P-1≤aH E:=by rw[hs];split<;>omega
 refine⟨hb,by omega,by omega,by omega,?_,by omega⟩
 by_cases he:0≤k+(1-stepOf E P K k)
 ·have:lW K.natAbs (k+(1-stepOf E P K k))=K.natAbs*2^(k+(1-stepOf E P K k)).toNat:=by
   unfold lW
   rw[show(-(k+(1-stepOf E P K k))).toNat=0 by omega]
   simp
  omega
 ·rw[show(k+(1-stepOf E P K k)).toNat=0 by omega]
  have:=hb.1
  have:=hb.2.1
  simp only[Int.pow_zero,Int.mul_one]
  omega
theorem UL{E P K k:Int}(h:aG E P)(h0:K≠0)(hbig:eu K k≤aH E):0≤tO E K k∧0≤jo E P K k∧jo E P K k<aB E P∧tO E K k*2^(P-1).toNat<aB E P:=by
 have hd:=am4 (E:=E) (k:=k) h.2.2.1 h0
 have hi:=Wx h
 have hb:=N9 h.1
 have hbr:=dN h.1 h.2.1
 have ht:0≤tO E K k∧tO E K k≤2^E.toNat-3:=by unfold tO;split<;>omega
 have hp:=au (P-1).toNat
 have hm:=Int.mul_le_mul_of_nonneg_right ht.2 (Int.le_of_lt hp)
 have hm0:=Int.mul_nonneg ht.1 (Int.le_of_lt hp)
 unfold jo
 rw[Int.sub_mul]at hm hi
 generalize tO E K k*2^(P-1).toNat=X at*
 generalize (2:Int)^E.toNat*2^(P-1).toNat=Y at*
 generalize (2:Int)^(P-1).toNat=p at*
 omega
theorem af0{E P m K k:Int}(h:aG E P)(m0:0≤m)(m1:m≤4)(hb:inB K k)(hk: -40000≤k):dU Tryz.prog TR 72 [.v (ed E P m),.n K k] ⟨none,.tuple #[ae (mY E P m K k),.int .i64 (mZ E P m K k)]⟩:=by
 have hgr:=JU E P m K k
 have Wy:=dR h
 have hsg:=dV h
 have hlr:=MK hb
 have hbr:=dN h.1 h.2.1
 by_cases h0:K=0
 ·subst h0
  refine af cZ (ach E P m 0 k) (by simp[cs0,mf,hb]) (by simp) hgr ?_ rfl
  simp[mY,mZ,ae]
 have hz:(mf K !=0)=false:=by simp[mf,h0]
 have c0: ∀c∈cs0 K k false,c.1=c.2:=by simp[cs0,hz,hb]
 have WA:decide (pV K<0)=decide (K<0):=by unfold pV;rw[if_neg h0];split<;>simp_all
 have c1: ∀neg big,decide (K<0)=neg→decide (eu K k>aH E)=big→ ∀c∈cs1 E P m K k neg big,c.1=c.2:=by
  intro neg big e1 e2
  unfold cs1
  simp only[List.forall_mem_cons]
  exact⟨e2,decide_eq_true h,decide_eq_true ⟨m0,m1⟩,WA.trans e1,trivial,by simp,WA.trans e1,trivial,by simp,c0⟩
 have c5: ∀l,(∀c∈l,c.1=c.2)→ ∀c∈qA E P m l,c.1=c.2:=by
  intro l hl
  unfold qA
  simp only[List.forall_mem_cons]
  exact⟨trivial,by simp[h,m0,m1],hl⟩
 by_cases hbig:eu K k>aH E
 ·have vW:mY E P m K k=kR E P m (decide (K<0)):=by unfold mY;rw[if_neg h0,if_pos hbig]
  have vF:mZ E P m K k=20:=by unfold mZ;rw[if_neg h0,if_pos hbig]
  rw[vW,vF]
  cases hn:decide (K<0)
  ·exact af cZ (X5 E P m K k) (c5 _ (c1 _ _ hn (by simpa using hbig))) (by simp) hgr rfl rfl
  ·exact af cZ (XK E P m K k) (c5 _ (c1 _ _ hn (by simpa using hbig))) (by simp) hgr rfl rfl
 have hle:eu K k≤aH E:=by omega
 have hbg:decide (eu K k>aH E)=false:=by simpa using hle
 obtain⟨t0,s0,s1,s2⟩:=UL (P:=P) h h0 hle
 have hdr:=am4 (E:=E) (k:=k) h.2.2.1 h0
 have hso:=aci h hb hk h0 hle
 have hrr:=Ym K.natAbs (k+(1-stepOf E P K k))
 have wT:rT E K k=tO E K k:=by
  unfold rT
  have e1:IntKind.i64.wrap (eu K k-(1-aH E))=eu K k-(1-aH E):=nC (by omega)
  rw[e1]
  show IntKind.u64.wrap (tO E K k)=tO E K k
  have:tO E K k≤200000:=by unfold tO;split<;>omega
  rw[IntKind.wrap_u64]
  omega
 have wP:IntKind.i64.wrap (P-1)=P-1:=nC (by have:=h.2.2.1;have:=h.2.2.2.1;omega)
 have wA:wX (.agg #[.int .u64 0,.int .u64 (tO E K k)])=tO E K k:=by
  show 0*18446744073709551616+tO E K k=tO E K k
  omega
 have wAB:wB (.agg #[.int .u64 0,.int .u64 (tO E K k)])=true:=by
  have:tO E K k≤200000:=by unfold tO;split<;>omega
  exact decide_eq_true ⟨by omega,by omega,t0,by omega⟩
 have eL:rL E P K k=ae (tO E K k*2^(P-1).toNat):=by
  unfold rL
  rw[wT,wP,wA,Int.emod_eq_of_lt (Int.mul_nonneg t0 (Int.le_of_lt (au _))) (by omega)]
 have eS:rS E P K k=ae (jo E P K k):=by
  unfold rS
  rw[eL,ag,ag]
  show ae (jo E P K k%aW)=_
  rw[Int.emod_eq_of_lt s0 (by omega)]
 have eU:rU E P K k=ae (jo E P K k+1):=by
  unfold rU
  rw[eS,ag,ag,Int.emod_eq_of_lt (by omega) (by omega)]
 have bD:wB (ae (rD E P K k))=true:=dh hdr.1 (by unfold jo at s1;have:=Int.mul_nonneg t0 (Int.le_of_lt (au (P-1).toNat));omega)
 have bL:wB (rL E P K k)=true:=by rw[eL];exact dh (Int.mul_nonneg t0 (Int.le_of_lt (au _))) (by omega)
 have b1:wB (ae 1)=true:=dh (by omega) (by rw[jm];omega)
 have bI:wB (ae (aB E P))=true:=dh (by omega) (by omega)
 have hbit:bits BinOp.and IntKind.u64 (rD E P K k%18446744073709551616) 1=rD E P K k%2:=by
  rw[and_one_u64 _ (by omega) (by omega)];omega
 have c2: ∀neg odd up,decide (K<0)=neg→(rD E P K k%2==1)=odd→nU (dm m neg) odd (rR E P K k)=up→ ∀c∈cs2 E P m K k neg odd up,c.1=c.2:=by
  intro neg odd up e1 e2 e3
  have hmr:=Ha neg m0 m1
  unfold cs2
  simp only[List.forall_mem_cons]
  refine⟨e3,decide_eq_true ⟨hmr.1,hmr.2,hrr.1,hrr.2⟩,by rw[hbit];exact e2,trivial,trivial,by rw[bL,bD];rfl,?_,trivial,decide_eq_true h,trivial,decide_eq_true hso,by simp,by simp[h,hb],by simp,c1 _ _ e1 hbg⟩
  rw[wT,wAB,wP,decide_eq_true (by have:=h.2.2.1;have:=h.2.2.2.1;omega)];rfl
 have c3: ∀neg odd,decide (K<0)=neg→(rD E P K k%2==1)=odd→nU (dm m neg) odd (rR E P K k)=true→ ∀c∈cs3 E P m K k neg odd,c.1=c.2:=by
  intro neg odd e1 e2 e3
  unfold cs3
  simp only[List.forall_mem_cons]
  exact⟨trivial,by rw[eS,dh s0 (by omega),b1];rfl,trivial,c2 _ _ _ e1 e2 e3⟩
 have c4: ∀S lt l,0≤S→S≤aB E P→decide (S<aB E P)=lt→(∀c∈l,c.1=c.2)→ ∀c∈dW E P m (ae S) lt l,c.1=c.2:=by
  intro S lt l g1 g2 e hl
  unfold dW
  simp only[List.forall_mem_cons,ag]
  exact⟨e,by rw[dh g1 (by omega),bI];rfl,decide_eq_true h,hl⟩
 have c6: ∀S l,0≤S→S<aB E P→(∀c∈l,c.1=c.2)→ ∀c∈iR E P (ae S) l,c.1=c.2:=by
  intro S l g1 g2 hl
  have g3:S<ai E P:=by have:=Wy.2.1;unfold ai;omega
  unfold iR
  simp only[List.forall_mem_cons,ag]
  exact⟨trivial,by simp[h,dh g1 (by omega),g3],hl⟩
 have c7: ∀tiny l,rR E P K k≠0→decide (eu K k<1-aH E)=tiny→(∀c∈l,c.1=c.2)→ ∀c∈cs7 E P K k tiny l,c.1=c.2:=by
  intro tiny l g1 e hl
  unfold cs7
  simp only[List.forall_mem_cons]
  exact⟨e,decide_eq_true h,by simpa using g1,hl⟩
 have vO: ¬iq E P m K k<aB E P→mY E P m K k=kR E P m (decide (K<0))∧mZ E P m K k=20:=fun g=>by
  unfold mY mZ;rw[if_neg h0,if_neg hbig,if_neg g,if_neg h0,if_neg hbig,if_neg g];exact⟨rfl,rfl⟩
 have vI:iq E P m K k<aB E P→mY E P m K k=iq E P m K k+(if K<0 then ai E P else 0)∧mZ E P m K k=(if rR E P K k=0 then 0 else if eu K k<1-aH E then 24 else 16):=fun g=>by
  unfold mY mZ;rw[if_neg h0,if_neg hbig,if_pos g,if_neg h0,if_neg hbig,if_pos g];exact⟨rfl,rfl⟩
 have leaf: ∀(neg odd up:Bool),decide (K<0)=neg→(rD E P K k%2==1)=odd→nU (dm m neg) odd (rR E P K k)=up→Y5 E P m K k=up:=by
  intro neg odd up e1 e2 e3;unfold Y5;rw[e1,e2,e3]
 cases hn:decide (K<0)
 ·have hK: ¬K<0:=by simpa using hn
  cases ho:(rD E P K k%2==1)
  ·cases hu:nU (dm m false) false (rR E P K k)
   ·have hsz:iq E P m K k=(jo E P K k):=by unfold iq;rw[leaf _ _ _ hn ho hu];simp
    by_cases hlt:(jo E P K k)<aB E P
    ·obtain⟨vW,vF⟩:=vI (by rw[hsz];exact hlt)
     rw[vW,vF,hsz,if_neg hK,Int.add_zero]
     by_cases hr:rR E P K k=0
     ·rw[if_pos hr]
      have hrun:=Yj E P m K k
      rw[eS]at hrun
      refine af cZ hrun (c6 _ _ (by omega) (by omega) ?_) (by simp) hgr (by rw[ag]) rfl
      simp only[List.forall_mem_cons]
      exact⟨by simp[hr],c4 _ _ _ (by omega) (by omega) (decide_eq_true hlt) (c2 _ _ _ hn ho hu)⟩
     ·rw[if_neg hr]
      by_cases ht:eu K k<1-aH E
      ·rw[if_pos ht]
       have hrun:=Yl E P m K k
       rw[eS]at hrun
       exact af cZ hrun (c6 _ _ (by omega) (by omega) (c7 _ _ hr (decide_eq_true ht) (c4 _ _ _ (by omega) (by omega) (decide_eq_true hlt) (c2 _ _ _ hn ho hu)))) (by simp) hgr (by rw[ag]) rfl
      ·rw[if_neg ht]
       have hrun:=Yk E P m K k
       rw[eS]at hrun
       exact af cZ hrun (c6 _ _ (by omega) (by omega) (c7 _ _ hr (decide_eq_false ht) (c4 _ _ _ (by omega) (by omega) (decide_eq_true hlt) (c2 _ _ _ hn ho hu)))) (by simp) hgr (by rw[ag]) rfl
    ·obtain⟨vW,vF⟩:=vO (by rw[hsz];exact hlt)
     rw[vW,vF,hn]
     have hrun:=Yi E P m K k
     rw[eS]at hrun
     exact af cZ hrun (c5 _ (c4 _ _ _ (by omega) (by omega) (decide_eq_false hlt) (c2 _ _ _ hn ho hu))) (by simp) hgr rfl rfl
   ·have hsz:iq E P m K k=(jo E P K k+1):=by unfold iq;rw[leaf _ _ _ hn ho hu];simp
    by_cases hlt:(jo E P K k+1)<aB E P
    ·obtain⟨vW,vF⟩:=vI (by rw[hsz];exact hlt)
     rw[vW,vF,hsz,if_neg hK,Int.add_zero]
     by_cases hr:rR E P K k=0
     ·rw[if_pos hr]
      have hrun:=Yf E P m K k
      rw[eU]at hrun
      refine af cZ hrun (c6 _ _ (by omega) (by omega) ?_) (by simp) hgr (by rw[ag]) rfl
      simp only[List.forall_mem_cons]
      exact⟨by simp[hr],c4 _ _ _ (by omega) (by omega) (decide_eq_true hlt) (c3 _ _ hn ho hu)⟩
     ·rw[if_neg hr]
      by_cases ht:eu K k<1-aH E
      ·rw[if_pos ht]
       have hrun:=Yh E P m K k
       rw[eU]at hrun
       exact af cZ hrun (c6 _ _ (by omega) (by omega) (c7 _ _ hr (decide_eq_true ht) (c4 _ _ _ (by omega) (by omega) (decide_eq_true hlt) (c3 _ _ hn ho hu)))) (by simp) hgr (by rw[ag]) rfl
      ·rw[if_neg ht]
       have hrun:=Yg E P m K k
       rw[eU]at hrun
       exact af cZ hrun (c6 _ _ (by omega) (by omega) (c7 _ _ hr (decide_eq_false ht) (c4 _ _ _ (by omega) (by omega) (decide_eq_true hlt) (c3 _ _ hn ho hu)))) (by simp) hgr (by rw[ag]) rfl
    ·obtain⟨vW,vF⟩:=vO (by rw[hsz];exact hlt)
     rw[vW,vF,hn]
     have hrun:=Ye E P m K k
     rw[eU]at hrun
     exact af cZ hrun (c5 _ (c4 _ _ _ (by omega) (by omega) (decide_eq_false hlt) (c3 _ _ hn ho hu))) (by simp) hgr rfl rfl
  ·cases hu:nU (dm m false) true (rR E P K k)
   ·have hsz:iq E P m K k=(jo E P K k):=by unfold iq;rw[leaf _ _ _ hn ho hu];simp
    by_cases hlt:(jo E P K k)<aB E P
    ·obtain⟨vW,vF⟩:=vI (by rw[hsz];exact hlt)
     rw[vW,vF,hsz,if_neg hK,Int.add_zero]
     by_cases hr:rR E P K k=0
     ·rw[if_pos hr]
      have hrun:=Yb E P m K k
      rw[eS]at hrun
      refine af cZ hrun (c6 _ _ (by omega) (by omega) ?_) (by simp) hgr (by rw[ag]) rfl
      simp only[List.forall_mem_cons]
      exact⟨by simp[hr],c4 _ _ _ (by omega) (by omega) (decide_eq_true hlt) (c2 _ _ _ hn ho hu)⟩
     ·rw[if_neg hr]
      by_cases ht:eu K k<1-aH E
      ·rw[if_pos ht]
       have hrun:=Yd E P m K k
       rw[eS]at hrun
       exact af cZ hrun (c6 _ _ (by omega) (by omega) (c7 _ _ hr (decide_eq_true ht) (c4 _ _ _ (by omega) (by omega) (decide_eq_true hlt) (c2 _ _ _ hn ho hu)))) (by simp) hgr (by rw[ag]) rfl
      ·rw[if_neg ht]
       have hrun:=Yc E P m K k
       rw[eS]at hrun
       exact af cZ hrun (c6 _ _ (by omega) (by omega) (c7 _ _ hr (decide_eq_false ht) (c4 _ _ _ (by omega) (by omega) (decide_eq_true hlt) (c2 _ _ _ hn ho hu)))) (by simp) hgr (by rw[ag]) rfl
    ·obtain⟨vW,vF⟩:=vO (by rw[hsz];exact hlt)
     rw[vW,vF,hn]
     have hrun:=Ya E P m K k
     rw[eS]at hrun
     exact af cZ hrun (c5 _ (c4 _ _ _ (by omega) (by omega) (decide_eq_false hlt) (c2 _ _ _ hn ho hu))) (by simp) hgr rfl rfl
   ·have hsz:iq E P m K k=(jo E P K k+1):=by unfold iq;rw[leaf _ _ _ hn ho hu];simp
    by_cases hlt:(jo E P K k+1)<aB E P
    ·obtain⟨vW,vF⟩:=vI (by rw[hsz];exact hlt)
     rw[vW,vF,hsz,if_neg hK,Int.add_zero]
     by_cases hr:rR E P K k=0
     ·rw[if_pos hr]
      have hrun:=X7 E P m K k
      rw[eU]at hrun
      refine af cZ hrun (c6 _ _ (by omega) (by omega) ?_) (by simp) hgr (by rw[ag]) rfl
      simp only[List.forall_mem_cons]
      exact⟨by simp[hr],c4 _ _ _ (by omega) (by omega) (decide_eq_true hlt) (c3 _ _ hn ho hu)⟩
     ·rw[if_neg hr]
      by_cases ht:eu K k<1-aH E
      ·rw[if_pos ht]
       have hrun:=X9 E P m K k
       rw[eU]at hrun
       exact af cZ hrun (c6 _ _ (by omega) (by omega) (c7 _ _ hr (decide_eq_true ht) (c4 _ _ _ (by omega) (by omega) (decide_eq_true hlt) (c3 _ _ hn ho hu)))) (by simp) hgr (by rw[ag]) rfl
      ·rw[if_neg ht]
       have hrun:=X8 E P m K k
       rw[eU]at hrun
       exact af cZ hrun (c6 _ _ (by omega) (by omega) (c7 _ _ hr (decide_eq_false ht) (c4 _ _ _ (by omega) (by omega) (decide_eq_true hlt) (c3 _ _ hn ho hu)))) (by simp) hgr (by rw[ag]) rfl
    ·obtain⟨vW,vF⟩:=vO (by rw[hsz];exact hlt)
     rw[vW,vF,hn]
     have hrun:=X6 E P m K k
     rw[eU]at hrun
     exact af cZ hrun (c5 _ (c4 _ _ _ (by omega) (by omega) (decide_eq_false hlt) (c3 _ _ hn ho hu))) (by simp) hgr rfl rfl
 ·have hK:K<0:=by simpa using hn
  cases ho:(rD E P K k%2==1)
  ·cases hu:nU (dm m true) false (rR E P K k)
   ·have hsz:iq E P m K k=(jo E P K k):=by unfold iq;rw[leaf _ _ _ hn ho hu];simp
    by_cases hlt:(jo E P K k)<aB E P
    ·obtain⟨vW,vF⟩:=vI (by rw[hsz];exact hlt)
     rw[vW,vF,hsz,if_pos hK]
     by_cases hr:rR E P K k=0
     ·rw[if_pos hr]
      have hrun:=XZ E P m K k
      rw[eS]at hrun
      refine af cZ hrun (c6 _ _ (by omega) (by omega) ?_) (by simp) hgr (by rw[ag]) rfl
      simp only[List.forall_mem_cons]
      exact⟨by simp[hr],c4 _ _ _ (by omega) (by omega) (decide_eq_true hlt) (c2 _ _ _ hn ho hu)⟩
     ·rw[if_neg hr]
      by_cases ht:eu K k<1-aH E
      ·rw[if_pos ht]
       have hrun:=X4 E P m K k
       rw[eS]at hrun
       exact af cZ hrun (c6 _ _ (by omega) (by omega) (c7 _ _ hr (decide_eq_true ht) (c4 _ _ _ (by omega) (by omega) (decide_eq_true hlt) (c2 _ _ _ hn ho hu)))) (by simp) hgr (by rw[ag]) rfl
      ·rw[if_neg ht]
       have hrun:=X3 E P m K k
       rw[eS]at hrun
       exact af cZ hrun (c6 _ _ (by omega) (by omega) (c7 _ _ hr (decide_eq_false ht) (c4 _ _ _ (by omega) (by omega) (decide_eq_true hlt) (c2 _ _ _ hn ho hu)))) (by simp) hgr (by rw[ag]) rfl
    ·obtain⟨vW,vF⟩:=vO (by rw[hsz];exact hlt)
     rw[vW,vF,hn]
     have hrun:=XY E P m K k
     rw[eS]at hrun
     exact af cZ hrun (c5 _ (c4 _ _ _ (by omega) (by omega) (decide_eq_false hlt) (c2 _ _ _ hn ho hu))) (by simp) hgr rfl rfl
   ·have hsz:iq E P m K k=(jo E P K k+1):=by unfold iq;rw[leaf _ _ _ hn ho hu];simp
    by_cases hlt:(jo E P K k+1)<aB E P
    ·obtain⟨vW,vF⟩:=vI (by rw[hsz];exact hlt)
     rw[vW,vF,hsz,if_pos hK]
     by_cases hr:rR E P K k=0
     ·rw[if_pos hr]
      have hrun:=XV E P m K k
      rw[eU]at hrun
      refine af cZ hrun (c6 _ _ (by omega) (by omega) ?_) (by simp) hgr (by rw[ag]) rfl
      simp only[List.forall_mem_cons]
      exact⟨by simp[hr],c4 _ _ _ (by omega) (by omega) (decide_eq_true hlt) (c3 _ _ hn ho hu)⟩
     ·rw[if_neg hr]
      by_cases ht:eu K k<1-aH E
      ·rw[if_pos ht]
       have hrun:=XX E P m K k
       rw[eU]at hrun
       exact af cZ hrun (c6 _ _ (by omega) (by omega) (c7 _ _ hr (decide_eq_true ht) (c4 _ _ _ (by omega) (by omega) (decide_eq_true hlt) (c3 _ _ hn ho hu)))) (by simp) hgr (by rw[ag]) rfl
      ·rw[if_neg ht]
       have hrun:=XW E P m K k
       rw[eU]at hrun
       exact af cZ hrun (c6 _ _ (by omega) (by omega) (c7 _ _ hr (decide_eq_false ht) (c4 _ _ _ (by omega) (by omega) (decide_eq_true hlt) (c3 _ _ hn ho hu)))) (by simp) hgr (by rw[ag]) rfl
    ·obtain⟨vW,vF⟩:=vO (by rw[hsz];exact hlt)
     rw[vW,vF,hn]
     have hrun:=XU E P m K k
     rw[eU]at hrun
     exact af cZ hrun (c5 _ (c4 _ _ _ (by omega) (by omega) (decide_eq_false hlt) (c3 _ _ hn ho hu))) (by simp) hgr rfl rfl
  ·cases hu:nU (dm m true) true (rR E P K k)
   ·have hsz:iq E P m K k=(jo E P K k):=by unfold iq;rw[leaf _ _ _ hn ho hu];simp
    by_cases hlt:(jo E P K k)<aB E P
    ·obtain⟨vW,vF⟩:=vI (by rw[hsz];exact hlt)
     rw[vW,vF,hsz,if_pos hK]
     by_cases hr:rR E P K k=0
     ·rw[if_pos hr]
      have hrun:=XQ E P m K k
      rw[eS]at hrun
      refine af cZ hrun (c6 _ _ (by omega) (by omega) ?_) (by simp) hgr (by rw[ag]) rfl
      simp only[List.forall_mem_cons]
      exact⟨by simp[hr],c4 _ _ _ (by omega) (by omega) (decide_eq_true hlt) (c2 _ _ _ hn ho hu)⟩
     ·rw[if_neg hr]
      by_cases ht:eu K k<1-aH E
      ·rw[if_pos ht]
       have hrun:=XT E P m K k
       rw[eS]at hrun
       exact af cZ hrun (c6 _ _ (by omega) (by omega) (c7 _ _ hr (decide_eq_true ht) (c4 _ _ _ (by omega) (by omega) (decide_eq_true hlt) (c2 _ _ _ hn ho hu)))) (by simp) hgr (by rw[ag]) rfl
      ·rw[if_neg ht]
       have hrun:=XR E P m K k
       rw[eS]at hrun
       exact af cZ hrun (c6 _ _ (by omega) (by omega) (c7 _ _ hr (decide_eq_false ht) (c4 _ _ _ (by omega) (by omega) (decide_eq_true hlt) (c2 _ _ _ hn ho hu)))) (by simp) hgr (by rw[ag]) rfl
    ·obtain⟨vW,vF⟩:=vO (by rw[hsz];exact hlt)
     rw[vW,vF,hn]
     have hrun:=XP E P m K k
     rw[eS]at hrun
     exact af cZ hrun (c5 _ (c4 _ _ _ (by omega) (by omega) (decide_eq_false hlt) (c2 _ _ _ hn ho hu))) (by simp) hgr rfl rfl
   ·have hsz:iq E P m K k=(jo E P K k+1):=by unfold iq;rw[leaf _ _ _ hn ho hu];simp
    by_cases hlt:(jo E P K k+1)<aB E P
    ·obtain⟨vW,vF⟩:=vI (by rw[hsz];exact hlt)
     rw[vW,vF,hsz,if_pos hK]
     by_cases hr:rR E P K k=0
     ·rw[if_pos hr]
      have hrun:=XM E P m K k
      rw[eU]at hrun
      refine af cZ hrun (c6 _ _ (by omega) (by omega) ?_) (by simp) hgr (by rw[ag]) rfl
      simp only[List.forall_mem_cons]
      exact⟨by simp[hr],c4 _ _ _ (by omega) (by omega) (decide_eq_true hlt) (c3 _ _ hn ho hu)⟩
     ·rw[if_neg hr]
      by_cases ht:eu K k<1-aH E
      ·rw[if_pos ht]
       have hrun:=XO E P m K k
       rw[eU]at hrun
       exact af cZ hrun (c6 _ _ (by omega) (by omega) (c7 _ _ hr (decide_eq_true ht) (c4 _ _ _ (by omega) (by omega) (decide_eq_true hlt) (c3 _ _ hn ho hu)))) (by simp) hgr (by rw[ag]) rfl
      ·rw[if_neg ht]
       have hrun:=XN E P m K k
       rw[eU]at hrun
       exact af cZ hrun (c6 _ _ (by omega) (by omega) (c7 _ _ hr (decide_eq_false ht) (c4 _ _ _ (by omega) (by omega) (decide_eq_true hlt) (c3 _ _ hn ho hu)))) (by simp) hgr (by rw[ag]) rfl
    ·obtain⟨vW,vF⟩:=vO (by rw[hsz];exact hlt)
     rw[vW,vF,hn]
     have hrun:=XL E P m K k
     rw[eU]at hrun
     exact af cZ hrun (c5 _ (c4 _ _ _ (by omega) (by omega) (decide_eq_false hlt) (c3 _ _ hn ho hu))) (by simp) hgr rfl rfl
def af1(xs:List Ar):Option bP:=match xs with
 |[.v a,.n K k]=>match iw a with
  |some (E,P,m)=>some (⟨none,.tuple #[ae (mY E P m K k),.int .i64 (mZ E P m K k)]⟩:bP)
  |none=>none
 |_=>none
def af2(xs:List Ar):Bool:=match xs with
 |[.v a,.n K k]=>match iw a with
  |some (E,P,m)=>decide (aG E P)&&(decide (0≤m∧m≤4)&&decide (inB K k∧ -40000≤k))
  |none=>false
 |_=>false
def Gh:CF→St→Option (Value×St):=bF 72 (aZ TR af2 af1)
theorem AB:aN Tryz.prog Gh:=aP dH xP oh fun xs R h hp=>by
 unfold af1 at h
 split at h
 ·split at h
  ·rename_i hm
   injection h with h
   subst h
   unfold af2 at hp
   simp only[hm,Bool.and_eq_true]at hp
   rw[jw hm]
   have h2:=of_decide_eq_true hp.2.1
   have h3:=of_decide_eq_true hp.2.2
   exact af0 (of_decide_eq_true hp.1) h2.1 h2.2 h3.1 h3.2
  ·cases h
 ·cases h
end Go.Proofs.YtnapiakfbihnjaaGreatDoor
