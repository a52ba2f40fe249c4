/-
  Rounding of a number with a divisor: its contract.
-/
import Derived.Test.YtnapiakfbihnjaaGreatDoorP42
set_option linter.unusedVariables false
set_option linter.unusedSimpArgs false
namespace Go.Proofs.YtnapiakfbihnjaaGreatDoor
open Go.RowKit Go.Shelf Go.Canon
def qV(E K D k:Int):Int:=if 0>je K D k-(1-aH E)then 0 else je K D k-(1-aH E)
def ig(E P K D k:Int):Int:=qV E K D k*2^(P-1).toNat+uU E P K D k
def NM(E P m K D k:Int):Bool:=nU (dm m (decide (K<0))) (uU E P K D k%2==1) (lM E P K D k)
def eG(E P m K D k:Int):Int:=ig E P K D k+(if NM E P m K D k=true then 1 else 0)
def pI(E P m K D k:Int):Int:=
 if K=0 then 0 else if je K D k>aH E then kR E P m (decide (K<0))else if eG E P m K D k<aB E P then eG E P m K D k+(if K<0 then ai E P else 0)else kR E P m (decide (K<0))
def pJ(E P m K D k:Int):Int:=
 if K=0 then 0 else if je K D k>aH E then 20 else if eG E P m K D k<aB E P then(if lM E P K D k=0 then 0 else if je K D k<1-aH E then 24 else 16)else 20
theorem MC{E P K D k:Int}(h:K≠0):jq E P K D k=(if 1-aH E>je K D k then 1-aH E else je K D k)-P+1:=by unfold jq;rw[if_neg h]
theorem afI{A D L e:Int}{n:Nat}(hA:0<A)(hD:0<D)(hg: ¬R.ge2 A D (L+1))(h:L+1+e≤n):kZ A D e<2^n:=by
 unfold kZ
 refine Int.ediv_lt_of_lt_mul (Int.mul_pos hD (au _)) ?_
 have h1:A*2^(-(L+1)).toNat<D*2^(L+1).toNat:=Int.not_le.1 hg
 apply Classical.byContradiction
 intro hc
 have h3:2^n*(D*2^(-e).toNat)≤A*2^e.toNat:=Int.not_lt.1 hc
 have h4:=Int.mul_le_mul_of_nonneg_right h3 (Int.le_of_lt (au (-(L+1)).toNat))
 have h5:=Int.mul_lt_mul_of_pos_right h1 (au e.toNat)
 have h6:(2:Int)^(L+1).toNat*2^e.toNat≤2^n*2^(-e).toNat*2^(-(L+1)).toNat:=by
  rw[←Int.pow_add,←Int.pow_add,←Int.pow_add]
  exact rG (by omega)
 have h7:=Int.mul_le_mul_of_nonneg_left h6 (Int.le_of_lt hD)
 have e1:D*2^(L+1).toNat*2^e.toNat=D*(2^(L+1).toNat*2^e.toNat):=Int.mul_assoc _ _ _
 have e2:2^n*(D*2^(-e).toNat)*2^(-(L+1)).toNat=D*(2^n*2^(-e).toNat*2^(-(L+1)).toNat):=by grind
 have e3:A*2^(-(L+1)).toNat*2^e.toNat=A*2^e.toNat*2^(-(L+1)).toNat:=by grind
 omega
theorem MF{E P K D k:Int}(hP:2≤P)(hD:0<D)(h:K≠0):kZ K.natAbs D (k+(1-jq E P K D k))<2^(P+1).toNat:=by
 have hs:je K D k-P+1≤jq E P K D k:=by rw[MC h];split<;>omega
 have hp:0<(K.natAbs:Int):=by omega
 obtain⟨g1,g2⟩:=JQ hp hD
 have hl:je K D k=Fq K.natAbs D+k:=by unfold je;rw[if_neg h]
 exact afI hp hD g2 (by omega)
theorem afJ{E P K D k:Int}(hP:2≤P)(hD:0<D)(h:K≠0):0≤uU E P K D k∧uU E P K D k<2*2^(P-1).toNat:=by
 have h1:=MF (E:=E) (k:=k) hP hD h
 have h2:(2:Int)^(P+1).toNat=2*(2*2^(P-1).toNat):=by
  rw[show(P+1).toNat=(P-1).toNat+1+1 by omega,Int.pow_succ,Int.pow_succ];omega
 have h3:0≤kZ K.natAbs D (k+(1-jq E P K D k)):=Int.ediv_nonneg (Int.mul_nonneg (by omega) (Int.le_of_lt (au _))) (Int.le_of_lt (Int.mul_pos hD (au _)))
 unfold uU
 omega
theorem afK{E P K D k:Int}(h:aG E P)(hb:fV K D k)(hk: -2000≤k∧k≤2000)(h0:K≠0)(hbig:je K D k≤aH E):DK K D k (jq E P K D k):=by
 have h1:=MF (E:=E) (k:=k) h.2.2.1 hb.2.2.1 h0
 have h2:=ZF h.2.2.2.1
 have hbr:=dN h.1 h.2.1
 obtain⟨f1,f2,f3,f4,f5⟩:=h
 have hs:=MC (E:=E) (P:=P) (D:=D) (k:=k) h0
 have hlo:1-aH E≤jq E P K D k+P-1∧jq E P K D k+P-1≤aH E:=by rw[hs];split<;>omega
 obtain⟨q1,q2,q3,q4,q5,q6⟩:=hb
 refine⟨⟨q1,q2,q3,q4,q5,q6⟩,by omega,by omega,⟨by omega,by omega,q3,q4,by omega,by omega⟩,by omega⟩
theorem Pv{E P K D k:Int}(h:aG E P)(hD:0<D)(h0:K≠0)(hbig:je K D k≤aH E):0≤qV E K D k∧0≤ig E P K D k∧ig E P K D k<aB E P∧qV E K D k*2^(P-1).toNat<aB E P:=by
 have hd:=afJ (E:=E) (k:=k) h.2.2.1 hD h0
 have hi:=Wx h
 have hb:=N9 h.1
 have hbr:=dN h.1 h.2.1
 have ht:0≤qV E K D k∧qV E K D k≤2^E.toNat-3:=by unfold qV;split<;>omega
 have hp:=au (P-1).toNat
 have hm:=Int.mul_le_mul_of_nonneg_right ht.2 (Int.le_of_lt hp)
 have hm0:=Int.mul_nonneg ht.1 (Int.le_of_lt hp)
 unfold ig
 rw[Int.sub_mul]at hm hi
 generalize qV E K D k*2^(P-1).toNat=X at*
 generalize (2:Int)^E.toNat*2^(P-1).toNat=Y at*
 generalize (2:Int)^(P-1).toNat=p at*
 omega
theorem abT{E P m K D k:Int}(h:aG E P)(m0:0≤m)(m1:m≤4)(hb:fV K D k)(hk: -2000≤k∧k≤2000):dU Tryz.prog TR 72 [.v (ed E P m),.q K D k] ⟨none,.tuple #[ae (pI E P m K D k),.int .i64 (pJ E P m K D k)]⟩:=by
 have hgr:=JR E P m K D k
 have hD:0<D:=hb.2.2.1
 have Wy:=dR h
 have hsg:=dV h
 have hlr:=Qb hb
 have hbr:=dN h.1 h.2.1
 by_cases h0:K=0
 ·subst h0
  refine af bM (XE E P m 0 D k) (by simp[Vx,mf,hb]) (by simp) hgr ?_ rfl
  simp[pI,pJ,ae]
 have hz:(mf K !=0)=false:=by simp[mf,h0]
 have c0: ∀c∈Vx K D k false,c.1=c.2:=by simp[Vx,hz,hb]
 have WA:decide (pV K<0)=decide (K<0):=by unfold pV;rw[if_neg h0];split<;>simp_all
 have c1: ∀neg big,decide (K<0)=neg→decide (je K D k>aH E)=big→ ∀c∈Vy E P m K D k neg big,c.1=c.2:=by
  intro neg big e1 e2
  unfold Vy
  simp only[List.forall_mem_cons]
  exact⟨e2,decide_eq_true h,decide_eq_true ⟨m0,m1⟩,WA.trans e1,trivial,by simp,WA.trans e1,trivial,by simp,c0⟩
 have c5: ∀l,(∀c∈l,c.1=c.2)→ ∀c∈qA E P m l,c.1=c.2:=by
  intro l hl
  unfold qA
  simp only[List.forall_mem_cons]
  exact⟨trivial,by simp[h,m0,m1],hl⟩
 by_cases hbig:je K D k>aH E
 ·have vW:pI E P m K D k=kR E P m (decide (K<0)):=by unfold pI;rw[if_neg h0,if_pos hbig]
  have vF:pJ E P m K D k=20:=by unfold pJ;rw[if_neg h0,if_pos hbig]
  rw[vW,vF]
  cases hn:decide (K<0)
  ·exact af bM (VT E P m K D k) (c5 _ (c1 _ _ hn (by simpa using hbig))) (by simp) hgr rfl rfl
  ·exact af bM (Vz E P m K D k) (c5 _ (c1 _ _ hn (by simpa using hbig))) (by simp) hgr rfl rfl
 have hle:je K D k≤aH E:=by omega
 have hbg:decide (je K D k>aH E)=false:=by simpa using hle
 obtain⟨t0,s0,s1,s2⟩:=Pv (P:=P) h hD h0 hle
 have hdr:=afJ (E:=E) (k:=k) h.2.2.1 hD h0
 have hso:=afK h hb hk h0 hle
 have hrr:=XD K.natAbs D (k+(1-jq E P K D k))
 have wT:rTq E K D k=qV E K D k:=by
  unfold rTq
  have e1:IntKind.i64.wrap (je K D k-(1-aH E))=je K D k-(1-aH E):=nC (by omega)
  rw[e1]
  show IntKind.u64.wrap (qV E K D k)=qV E K D k
  have:qV E K D k≤200000:=by unfold qV;split<;>omega
  rw[IntKind.wrap_u64]
  omega
 have wP:IntKind.i64.wrap (P-1)=P-1:=nC (by have:=h.2.2.1;have:=h.2.2.2.1;omega)
 have wA:wX (.agg #[.int .u64 0,.int .u64 (qV E K D k)])=qV E K D k:=by
  show 0*18446744073709551616+qV E K D k=qV E K D k
  omega
 have wAB:wB (.agg #[.int .u64 0,.int .u64 (qV E K D k)])=true:=by
  have:qV E K D k≤200000:=by unfold qV;split<;>omega
  exact decide_eq_true ⟨by omega,by omega,t0,by omega⟩
 have eL:rLq E P K D k=ae (qV E K D k*2^(P-1).toNat):=by
  unfold rLq
  rw[wT,wP,wA,Int.emod_eq_of_lt (Int.mul_nonneg t0 (Int.le_of_lt (au _))) (by omega)]
 have eS:jJ E P K D k=ae (ig E P K D k):=by
  unfold jJ
  rw[eL,ag,ag]
  show ae (ig E P K D k%aW)=_
  rw[Int.emod_eq_of_lt s0 (by omega)]
 have eU:jT E P K D k=ae (ig E P K D k+1):=by
  unfold jT
  rw[eS,ag,ag,Int.emod_eq_of_lt (by omega) (by omega)]
 have bD:wB (ae (uU E P K D k))=true:=dh hdr.1 (by unfold ig at s1;have:=Int.mul_nonneg t0 (Int.le_of_lt (au (P-1).toNat));omega)
 have bL:wB (rLq E P K D k)=true:=by rw[eL];exact dh (Int.mul_nonneg t0 (Int.le_of_lt (au _))) (by omega)
 have b1:wB (ae 1)=true:=dh (by omega) (by rw[jm];omega)
 have bI:wB (ae (aB E P))=true:=dh (by omega) (by omega)
 have hbit:bits BinOp.and IntKind.u64 (uU E P K D k%18446744073709551616) 1=uU E P K D k%2:=by
  rw[and_one_u64 _ (by omega) (by omega)];omega
 have c2: ∀neg odd up,decide (K<0)=neg→(uU E P K D k%2==1)=odd→nU (dm m neg) odd (lM E P K D k)=up→ ∀c∈pM E P m K D k neg odd up,c.1=c.2:=by
  intro neg odd up e1 e2 e3
  have hmr:=Ha neg m0 m1
  unfold pM
  simp only[List.forall_mem_cons]
  refine⟨e3,decide_eq_true ⟨hmr.1,hmr.2,hrr.1,hrr.2⟩,by rw[hbit];exact e2,trivial,trivial,by rw[bL,bD];rfl,?_,trivial,decide_eq_true h,trivial,decide_eq_true hso,by simp,by simp[h,hb],by simp,c1 _ _ e1 hbg⟩
  rw[wT,wAB,wP,decide_eq_true (by have:=h.2.2.1;have:=h.2.2.2.1;omega)];rfl
 have c3: ∀neg odd,decide (K<0)=neg→(uU E P K D k%2==1)=odd→nU (dm m neg) odd (lM E P K D k)=true→ ∀c∈qm E P m K D k neg odd,c.1=c.2:=by
  intro neg odd e1 e2 e3
  unfold qm
  simp only[List.forall_mem_cons]
  exact⟨trivial,by rw[eS,dh s0 (by omega),b1];rfl,trivial,c2 _ _ _ e1 e2 e3⟩
 have c4: ∀S lt l,0≤S→S≤aB E P→decide (S<aB E P)=lt→(∀c∈l,c.1=c.2)→ ∀c∈dW E P m (ae S) lt l,c.1=c.2:=by
  intro S lt l g1 g2 e hl
  unfold dW
  simp only[List.forall_mem_cons,ag]
  exact⟨e,by rw[dh g1 (by omega),bI];rfl,decide_eq_true h,hl⟩
 have c6: ∀S l,0≤S→S<aB E P→(∀c∈l,c.1=c.2)→ ∀c∈iR E P (ae S) l,c.1=c.2:=by
  intro S l g1 g2 hl
  have g3:S<ai E P:=by have:=Wy.2.1;unfold ai;omega
  unfold iR
  simp only[List.forall_mem_cons,ag]
  exact⟨trivial,by simp[h,dh g1 (by omega),g3],hl⟩
 have c7: ∀tiny l,lM E P K D k≠0→decide (je K D k<1-aH E)=tiny→(∀c∈l,c.1=c.2)→ ∀c∈qo E P K D k tiny l,c.1=c.2:=by
  intro tiny l g1 e hl
  unfold qo
  simp only[List.forall_mem_cons]
  exact⟨e,decide_eq_true h,by simpa using g1,hl⟩
 have vO: ¬eG E P m K D k<aB E P→pI E P m K D k=kR E P m (decide (K<0))∧pJ E P m K D k=20:=fun g=>by
  unfold pI pJ;rw[if_neg h0,if_neg hbig,if_neg g,if_neg h0,if_neg hbig,if_neg g];exact⟨rfl,rfl⟩
 have vI:eG E P m K D k<aB E P→pI E P m K D k=eG E P m K D k+(if K<0 then ai E P else 0)∧pJ E P m K D k=(if lM E P K D k=0 then 0 else if je K D k<1-aH E then 24 else 16):=fun g=>by
  unfold pI pJ;rw[if_neg h0,if_neg hbig,if_pos g,if_neg h0,if_neg hbig,if_pos g];exact⟨rfl,rfl⟩
 have leaf: ∀(neg odd up:Bool),decide (K<0)=neg→(uU E P K D k%2==1)=odd→nU (dm m neg) odd (lM E P K D k)=up→NM E P m K D k=up:=by
  intro neg odd up e1 e2 e3;unfold NM;rw[e1,e2,e3]
 cases hn:decide (K<0)
 ·have hK: ¬K<0:=by simpa using hn
  cases ho:(uU E P K D k%2==1)
  ·cases hu:nU (dm m false) false (lM E P K D k)
   ·have hsz:eG E P m K D k=(ig E P K D k):=by unfold eG;rw[leaf _ _ _ hn ho hu];simp
    by_cases hlt:(ig E P K D k)<aB E P
    ·obtain⟨vW,vF⟩:=vI (by rw[hsz];exact hlt)
     rw[vW,vF,hsz,if_neg hK,Int.add_zero]
     by_cases hr:lM E P K D k=0
     ·rw[if_pos hr]
      have hrun:=Ws E P m K D k
      rw[eS]at hrun
      refine af bM hrun (c6 _ _ (by omega) (by omega) ?_) (by simp) hgr (by rw[ag]) rfl
      simp only[List.forall_mem_cons]
      exact⟨by simp[hr],c4 _ _ _ (by omega) (by omega) (decide_eq_true hlt) (c2 _ _ _ hn ho hu)⟩
     ·rw[if_neg hr]
      by_cases ht:je K D k<1-aH E
      ·rw[if_pos ht]
       have hrun:=Wv E P m K D k
       rw[eS]at hrun
       exact af bM hrun (c6 _ _ (by omega) (by omega) (c7 _ _ hr (decide_eq_true ht) (c4 _ _ _ (by omega) (by omega) (decide_eq_true hlt) (c2 _ _ _ hn ho hu)))) (by simp) hgr (by rw[ag]) rfl
      ·rw[if_neg ht]
       have hrun:=Wu E P m K D k
       rw[eS]at hrun
       exact af bM hrun (c6 _ _ (by omega) (by omega) (c7 _ _ hr (decide_eq_false ht) (c4 _ _ _ (by omega) (by omega) (decide_eq_true hlt) (c2 _ _ _ hn ho hu)))) (by simp) hgr (by rw[ag]) rfl
    ·obtain⟨vW,vF⟩:=vO (by rw[hsz];exact hlt)
     rw[vW,vF,hn]
     have hrun:=Wq E P m K D k
     rw[eS]at hrun
     exact af bM hrun (c5 _ (c4 _ _ _ (by omega) (by omega) (decide_eq_false hlt) (c2 _ _ _ hn ho hu))) (by simp) hgr rfl rfl
   ·have hsz:eG E P m K D k=(ig E P K D k+1):=by unfold eG;rw[leaf _ _ _ hn ho hu];simp
    by_cases hlt:(ig E P K D k+1)<aB E P
    ·obtain⟨vW,vF⟩:=vI (by rw[hsz];exact hlt)
     rw[vW,vF,hsz,if_neg hK,Int.add_zero]
     by_cases hr:lM E P K D k=0
     ·rw[if_pos hr]
      have hrun:=Wj E P m K D k
      rw[eU]at hrun
      refine af bM hrun (c6 _ _ (by omega) (by omega) ?_) (by simp) hgr (by rw[ag]) rfl
      simp only[List.forall_mem_cons]
      exact⟨by simp[hr],c4 _ _ _ (by omega) (by omega) (decide_eq_true hlt) (c3 _ _ hn ho hu)⟩
     ·rw[if_neg hr]
      by_cases ht:je K D k<1-aH E
      ·rw[if_pos ht]
       have hrun:=Wp E P m K D k
       rw[eU]at hrun
       exact af bM hrun (c6 _ _ (by omega) (by omega) (c7 _ _ hr (decide_eq_true ht) (c4 _ _ _ (by omega) (by omega) (decide_eq_true hlt) (c3 _ _ hn ho hu)))) (by simp) hgr (by rw[ag]) rfl
      ·rw[if_neg ht]
       have hrun:=Wl E P m K D k
       rw[eU]at hrun
       exact af bM hrun (c6 _ _ (by omega) (by omega) (c7 _ _ hr (decide_eq_false ht) (c4 _ _ _ (by omega) (by omega) (decide_eq_true hlt) (c3 _ _ hn ho hu)))) (by simp) hgr (by rw[ag]) rfl
    ·obtain⟨vW,vF⟩:=vO (by rw[hsz];exact hlt)
     rw[vW,vF,hn]
     have hrun:=Wi E P m K D k
     rw[eU]at hrun
     exact af bM hrun (c5 _ (c4 _ _ _ (by omega) (by omega) (decide_eq_false hlt) (c3 _ _ hn ho hu))) (by simp) hgr rfl rfl
  ·cases hu:nU (dm m false) true (lM E P K D k)
   ·have hsz:eG E P m K D k=(ig E P K D k):=by unfold eG;rw[leaf _ _ _ hn ho hu];simp
    by_cases hlt:(ig E P K D k)<aB E P
    ·obtain⟨vW,vF⟩:=vI (by rw[hsz];exact hlt)
     rw[vW,vF,hsz,if_neg hK,Int.add_zero]
     by_cases hr:lM E P K D k=0
     ·rw[if_pos hr]
      have hrun:=VZ E P m K D k
      rw[eS]at hrun
      refine af bM hrun (c6 _ _ (by omega) (by omega) ?_) (by simp) hgr (by rw[ag]) rfl
      simp only[List.forall_mem_cons]
      exact⟨by simp[hr],c4 _ _ _ (by omega) (by omega) (decide_eq_true hlt) (c2 _ _ _ hn ho hu)⟩
     ·rw[if_neg hr]
      by_cases ht:je K D k<1-aH E
      ·rw[if_pos ht]
       have hrun:=Wh E P m K D k
       rw[eS]at hrun
       exact af bM hrun (c6 _ _ (by omega) (by omega) (c7 _ _ hr (decide_eq_true ht) (c4 _ _ _ (by omega) (by omega) (decide_eq_true hlt) (c2 _ _ _ hn ho hu)))) (by simp) hgr (by rw[ag]) rfl
      ·rw[if_neg ht]
       have hrun:=We E P m K D k
       rw[eS]at hrun
       exact af bM hrun (c6 _ _ (by omega) (by omega) (c7 _ _ hr (decide_eq_false ht) (c4 _ _ _ (by omega) (by omega) (decide_eq_true hlt) (c2 _ _ _ hn ho hu)))) (by simp) hgr (by rw[ag]) rfl
    ·obtain⟨vW,vF⟩:=vO (by rw[hsz];exact hlt)
     rw[vW,vF,hn]
     have hrun:=VY E P m K D k
     rw[eS]at hrun
     exact af bM hrun (c5 _ (c4 _ _ _ (by omega) (by omega) (decide_eq_false hlt) (c2 _ _ _ hn ho hu))) (by simp) hgr rfl rfl
   ·have hsz:eG E P m K D k=(ig E P K D k+1):=by unfold eG;rw[leaf _ _ _ hn ho hu];simp
    by_cases hlt:(ig E P K D k+1)<aB E P
    ·obtain⟨vW,vF⟩:=vI (by rw[hsz];exact hlt)
     rw[vW,vF,hsz,if_neg hK,Int.add_zero]
     by_cases hr:lM E P K D k=0
     ·rw[if_pos hr]
      have hrun:=VV E P m K D k
      rw[eU]at hrun
      refine af bM hrun (c6 _ _ (by omega) (by omega) ?_) (by simp) hgr (by rw[ag]) rfl
      simp only[List.forall_mem_cons]
      exact⟨by simp[hr],c4 _ _ _ (by omega) (by omega) (decide_eq_true hlt) (c3 _ _ hn ho hu)⟩
     ·rw[if_neg hr]
      by_cases ht:je K D k<1-aH E
      ·rw[if_pos ht]
       have hrun:=VX E P m K D k
       rw[eU]at hrun
       exact af bM hrun (c6 _ _ (by omega) (by omega) (c7 _ _ hr (decide_eq_true ht) (c4 _ _ _ (by omega) (by omega) (decide_eq_true hlt) (c3 _ _ hn ho hu)))) (by simp) hgr (by rw[ag]) rfl
      ·rw[if_neg ht]
       have hrun:=VW E P m K D k
       rw[eU]at hrun
       exact af bM hrun (c6 _ _ (by omega) (by omega) (c7 _ _ hr (decide_eq_false ht) (c4 _ _ _ (by omega) (by omega) (decide_eq_true hlt) (c3 _ _ hn ho hu)))) (by simp) hgr (by rw[ag]) rfl
    ·obtain⟨vW,vF⟩:=vO (by rw[hsz];exact hlt)
     rw[vW,vF,hn]
     have hrun:=VU E P m K D k
     rw[eU]at hrun
     exact af bM hrun (c5 _ (c4 _ _ _ (by omega) (by omega) (decide_eq_false hlt) (c3 _ _ hn ho hu))) (by simp) hgr rfl rfl
 ·have hK:K<0:=by simpa using hn
  cases ho:(uU E P K D k%2==1)
  ·cases hu:nU (dm m true) false (lM E P K D k)
   ·have hsz:eG E P m K D k=(ig E P K D k):=by unfold eG;rw[leaf _ _ _ hn ho hu];simp
    by_cases hlt:(ig E P K D k)<aB E P
    ·obtain⟨vW,vF⟩:=vI (by rw[hsz];exact hlt)
     rw[vW,vF,hsz,if_pos hK]
     by_cases hr:lM E P K D k=0
     ·rw[if_pos hr]
      have hrun:=VN E P m K D k
      rw[eS]at hrun
      refine af bM hrun (c6 _ _ (by omega) (by omega) ?_) (by simp) hgr (by rw[ag]) rfl
      simp only[List.forall_mem_cons]
      exact⟨by simp[hr],c4 _ _ _ (by omega) (by omega) (decide_eq_true hlt) (c2 _ _ _ hn ho hu)⟩
     ·rw[if_neg hr]
      by_cases ht:je K D k<1-aH E
      ·rw[if_pos ht]
       have hrun:=VS E P m K D k
       rw[eS]at hrun
       exact af bM hrun (c6 _ _ (by omega) (by omega) (c7 _ _ hr (decide_eq_true ht) (c4 _ _ _ (by omega) (by omega) (decide_eq_true hlt) (c2 _ _ _ hn ho hu)))) (by simp) hgr (by rw[ag]) rfl
      ·rw[if_neg ht]
       have hrun:=VO E P m K D k
       rw[eS]at hrun
       exact af bM hrun (c6 _ _ (by omega) (by omega) (c7 _ _ hr (decide_eq_false ht) (c4 _ _ _ (by omega) (by omega) (decide_eq_true hlt) (c2 _ _ _ hn ho hu)))) (by simp) hgr (by rw[ag]) rfl
    ·obtain⟨vW,vF⟩:=vO (by rw[hsz];exact hlt)
     rw[vW,vF,hn]
     have hrun:=VM E P m K D k
     rw[eS]at hrun
     exact af bM hrun (c5 _ (c4 _ _ _ (by omega) (by omega) (decide_eq_false hlt) (c2 _ _ _ hn ho hu))) (by simp) hgr rfl rfl
   ·have hsz:eG E P m K D k=(ig E P K D k+1):=by unfold eG;rw[leaf _ _ _ hn ho hu];simp
    by_cases hlt:(ig E P K D k+1)<aB E P
    ·obtain⟨vW,vF⟩:=vI (by rw[hsz];exact hlt)
     rw[vW,vF,hsz,if_pos hK]
     by_cases hr:lM E P K D k=0
     ·rw[if_pos hr]
      have hrun:=VJ E P m K D k
      rw[eU]at hrun
      refine af bM hrun (c6 _ _ (by omega) (by omega) ?_) (by simp) hgr (by rw[ag]) rfl
      simp only[List.forall_mem_cons]
      exact⟨by simp[hr],c4 _ _ _ (by omega) (by omega) (decide_eq_true hlt) (c3 _ _ hn ho hu)⟩
     ·rw[if_neg hr]
      by_cases ht:je K D k<1-aH E
      ·rw[if_pos ht]
       have hrun:=VL E P m K D k
       rw[eU]at hrun
       exact af bM hrun (c6 _ _ (by omega) (by omega) (c7 _ _ hr (decide_eq_true ht) (c4 _ _ _ (by omega) (by omega) (decide_eq_true hlt) (c3 _ _ hn ho hu)))) (by simp) hgr (by rw[ag]) rfl
      ·rw[if_neg ht]
       have hrun:=VK E P m K D k
       rw[eU]at hrun
       exact af bM hrun (c6 _ _ (by omega) (by omega) (c7 _ _ hr (decide_eq_false ht) (c4 _ _ _ (by omega) (by omega) (decide_eq_true hlt) (c3 _ _ hn ho hu)))) (by simp) hgr (by rw[ag]) rfl
    ·obtain⟨vW,vF⟩:=vO (by rw[hsz];exact hlt)
     rw[vW,vF,hn]
     have hrun:=VI E P m K D k
     rw[eU]at hrun
     exact af bM hrun (c5 _ (c4 _ _ _ (by omega) (by omega) (decide_eq_false hlt) (c3 _ _ hn ho hu))) (by simp) hgr rfl rfl
  ·cases hu:nU (dm m true) true (lM E P K D k)
   ·have hsz:eG E P m K D k=(ig E P K D k):=by unfold eG;rw[leaf _ _ _ hn ho hu];simp
    by_cases hlt:(ig E P K D k)<aB E P
    ·obtain⟨vW,vF⟩:=vI (by rw[hsz];exact hlt)
     rw[vW,vF,hsz,if_pos hK]
     by_cases hr:lM E P K D k=0
     ·rw[if_pos hr]
      have hrun:=VF E P m K D k
      rw[eS]at hrun
      refine af bM hrun (c6 _ _ (by omega) (by omega) ?_) (by simp) hgr (by rw[ag]) rfl
      simp only[List.forall_mem_cons]
      exact⟨by simp[hr],c4 _ _ _ (by omega) (by omega) (decide_eq_true hlt) (c2 _ _ _ hn ho hu)⟩
     ·rw[if_neg hr]
      by_cases ht:je K D k<1-aH E
      ·rw[if_pos ht]
       have hrun:=VH E P m K D k
       rw[eS]at hrun
       exact af bM hrun (c6 _ _ (by omega) (by omega) (c7 _ _ hr (decide_eq_true ht) (c4 _ _ _ (by omega) (by omega) (decide_eq_true hlt) (c2 _ _ _ hn ho hu)))) (by simp) hgr (by rw[ag]) rfl
      ·rw[if_neg ht]
       have hrun:=VG E P m K D k
       rw[eS]at hrun
       exact af bM hrun (c6 _ _ (by omega) (by omega) (c7 _ _ hr (decide_eq_false ht) (c4 _ _ _ (by omega) (by omega) (decide_eq_true hlt) (c2 _ _ _ hn ho hu)))) (by simp) hgr (by rw[ag]) rfl
    ·obtain⟨vW,vF⟩:=vO (by rw[hsz];exact hlt)
     rw[vW,vF,hn]
     have hrun:=VE E P m K D k
     rw[eS]at hrun
     exact af bM hrun (c5 _ (c4 _ _ _ (by omega) (by omega) (decide_eq_false hlt) (c2 _ _ _ hn ho hu))) (by simp) hgr rfl rfl
   ·have hsz:eG E P m K D k=(ig E P K D k+1):=by unfold eG;rw[leaf _ _ _ hn ho hu];simp
    by_cases hlt:(ig E P K D k+1)<aB E P
    ·obtain⟨vW,vF⟩:=vI (by rw[hsz];exact hlt)
     rw[vW,vF,hsz,if_pos hK]
     by_cases hr:lM E P K D k=0
     ·rw[if_pos hr]
      have hrun:=VB E P m K D k
      rw[eU]at hrun
      refine af bM hrun (c6 _ _ (by omega) (by omega) ?_) (by simp) hgr (by rw[ag]) rfl
      simp only[List.forall_mem_cons]
      exact⟨by simp[hr],c4 _ _ _ (by omega) (by omega) (decide_eq_true hlt) (c3 _ _ hn ho hu)⟩
     ·rw[if_neg hr]
      by_cases ht:je K D k<1-aH E
      ·rw[if_pos ht]
       have hrun:=VD E P m K D k
       rw[eU]at hrun
       exact af bM hrun (c6 _ _ (by omega) (by omega) (c7 _ _ hr (decide_eq_true ht) (c4 _ _ _ (by omega) (by omega) (decide_eq_true hlt) (c3 _ _ hn ho hu)))) (by simp) hgr (by rw[ag]) rfl
      ·rw[if_neg ht]
       have hrun:=VC E P m K D k
       rw[eU]at hrun
       exact af bM hrun (c6 _ _ (by omega) (by omega) (c7 _ _ hr (decide_eq_false ht) (c4 _ _ _ (by omega) (by omega) (decide_eq_true hlt) (c3 _ _ hn ho hu)))) (by simp) hgr (by rw[ag]) rfl
    ·obtain⟨vW,vF⟩:=vO (by rw[hsz];exact hlt)
     rw[vW,vF,hn]
     have hrun:=VA E P m K D k
     rw[eU]at hrun
     exact af bM hrun (c5 _ (c4 _ _ _ (by omega) (by omega) (decide_eq_false hlt) (c3 _ _ hn ho hu))) (by simp) hgr rfl rfl
def ZG(xs:List Ar):Option bP:=match xs with
 |[.v a,.q K D k]=>match iw a with
  |some (E,P,m)=>some (⟨none,.tuple #[ae (pI E P m K D k),.int .i64 (pJ E P m K D k)]⟩:bP)
  |none=>none
 |_=>none
def ZH(xs:List Ar):Bool:=match xs with
 |[.v a,.q K D k]=>match iw a with
  |some (E,P,m)=>decide (aG E P)&&(decide (0≤m∧m≤4)&&decide (fV K D k∧ -2000≤k∧k≤2000))
  |none=>false
 |_=>false
def YL:CF→St→Option (Value×St):=bF 72 (aZ TR ZH ZG)
theorem aaW:aN Tryz.prog YL:=aP dH xP oh fun xs R h hp=>by
 unfold ZG at h
 split at h
 ·split at h
  ·rename_i hm
   injection h with h
   subst h
   unfold ZH at hp
   simp only[hm,Bool.and_eq_true]at hp
   rw[jw hm]
   have h2:=of_decide_eq_true hp.2.1
   have h3:=of_decide_eq_true hp.2.2
   exact abT (of_decide_eq_true hp.1) h2.1 h2.2 h3.1 h3.2
  ·cases h
 ·cases h
end Go.Proofs.YtnapiakfbihnjaaGreatDoor
