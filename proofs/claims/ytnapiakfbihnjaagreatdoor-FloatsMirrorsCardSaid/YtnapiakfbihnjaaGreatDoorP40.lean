/-
  Numbers with a divisor: logarithm, size, sign, and what is shifted, as answers of calls.
-/
import Derived.Test.YtnapiakfbihnjaaGreatDoorP36
import Derived.Test.YtnapiakfbihnjaaGreatDoorP39
set_option linter.unusedVariables false
set_option linter.unusedSimpArgs false
set_option maxHeartbeats 1000000
namespace Go.Proofs.YtnapiakfbihnjaaGreatDoor
open Go.RowKit Go.Shelf Go.Canon Tryz
attribute [local go_sem] fQ dP
def G9(t b:Int):Int:=(aQ t:Int)-aQ b-(if t*2^aQ b<b*2^aQ t then 1 else 0)
theorem ait{x y:Int}{p q p' q':Nat}(h:p+q'=p'+q):x*2^p≤y*2^q↔x*2^p'≤y*2^q':=by
 have key: ∀{a b c d:Nat} (j:Nat),a+j=c→b+j=d→(x*2^a≤y*2^b↔x*2^c≤y*2^d):=by
  intro a b c d j h1 h2
  rw[←h1,←h2,Int.pow_add,Int.pow_add,←Int.mul_assoc,←Int.mul_assoc]
  exact⟨fun h=>Int.mul_le_mul_of_nonneg_right h (Int.le_of_lt (au j)),fun h=>Int.le_of_mul_le_mul_right h (au j)⟩
 by_cases hp:p≤p'
 ·exact key (p'-p) (by omega) (by omega)
 ·exact(key (p-p') (by omega) (by omega)).symm
theorem Qr.amK{s:Bool}{t b K D:Int}{i j:Nat}(t0:0<t)(b0:0<b)(hD:0<D)(hk:sg s t*2^i*D=K*2^j*b):t*2^i*D=(K.natAbs:Int)*2^j*b:=by
 have hp:=Int.mul_pos (Int.mul_pos t0 (au i)) hD
 have h1:((sg s t*2^i*D).natAbs:Int)=t*2^i*D:=by
  cases s
  ·show((t*2^i*D).natAbs:Int)=_;omega
  ·show(((-t)*2^i*D).natAbs:Int)=_
   rw[Int.neg_mul,Int.neg_mul];omega
 have h2:((K*2^j*b).natAbs:Int)=K.natAbs*2^j*b:=by
  have hj:((((2:Int)^j).natAbs:Nat):Int)=2^j:=by have:=au j;omega
  have hb:((b.natAbs:Nat):Int)=b:=by omega
  rw[Int.natAbs_mul,Int.natAbs_mul,Int.natCast_mul,Int.natCast_mul,hj,hb]
 rw[←h1,←h2,hk]
theorem Qr.lg{s:Bool}{t b e K D k:Int}(h:Qr s t b e K D k)(t0:0<t):G9 t b+e=Fq K.natAbs D+k∧0<b∧K≠0:=by
 obtain⟨hD,h⟩:=h
 rcases h with⟨rfl,_⟩|⟨_,_,_,b0,_,i,j,he,hk⟩
 ·omega
 have hp:=Int.mul_pos (Int.mul_pos t0 (au i)) hD
 have ea:=Qr.amK t0 b0 hD hk
 have K0:K≠0:=by
  intro h0
  rw[h0]at ea
  simp at ea
  omega
 have kp:0<(K.natAbs:Int):=by omega
 have np:0<t*2^i:=Int.mul_pos t0 (au i)
 have dp:0<b*2^j:=Int.mul_pos b0 (au j)
 have cr:t*2^i*D=(K.natAbs:Int)*(b*2^j):=by rw[ea];grind
 obtain⟨g1,g2⟩:=JQ kp hD
 have e1:Fq (t*2^i) (b*2^j)=Fq K.natAbs D:=aue np dp ((R.Zw dp hD cr).2 g1) (fun hc=>g2 ((R.Zw dp hD cr).1 hc))
 have b1:aQ (t*2^i)=aQ t+i:=Eo t0 i
 have b2:aQ (b*2^j)=aQ b+j:=Eo b0 j
 have e2:Fq (t*2^i) (b*2^j)=G9 t b+i-j:=by
  unfold Fq G9
  rw[b1,b2]
  have hc:R.ge2 (t*2^i) (b*2^j) (((aQ t+i:Nat):Int)-((aQ b+j:Nat):Int))↔b*2^aQ t≤t*2^aQ b:=by
   unfold R.ge2
   rw[Int.mul_assoc,Int.mul_assoc,←Int.pow_add,←Int.pow_add]
   exact ait (by omega)
  by_cases hl:t*2^aQ b<b*2^aQ t
  ·rw[if_neg (fun h=>absurd (hc.1 h) (by omega)),if_pos hl];omega
  ·rw[if_pos (hc.2 (by omega)),if_neg hl];omega
 exact⟨by omega,b0,K0⟩
set_option maxRecDepth 100000 in
theorem aiu(w:World)(v:Value)(s:Bool)(t b e:Int)(h:Nm w v s t b e)(h1:b≠1)(ht:t<big)(t0:0<t)(hb:b<big)(b0:0<b)(he0: -1000000≤e)(he1:e≤1000000):
 Calls prog 194 #[v] w (ww w (G9 t b+e)):=by
 obtain⟨bo,lb,cb,aU,aS,cb2,rfl,n1,n2⟩:=h.ex
 have n2:Nt w (.slice aU aS cb2) b:=by
  rcases n2 with⟨hc,_⟩|⟨_,n2⟩
  ·exact absurd hc h1
  ·exact n2
 obtain⟨a2,rfl⟩: ∃a,aU=some a:=by
  cases aU with
  |none=>have:=n2.isNone;simp at this;omega
  |some a=>exact⟨a,rfl⟩
 have hbt:=EK ht
 have hbb:=EK hb
 obtain⟨_,_,ht1⟩:=eF t0
 obtain⟨_,_,hb1⟩:=eF b0
 have hd: ∀n r,aQ t≤64*n→aQ b≤64*n→r=bW (t*2^(64*n-aQ t)) (b*2^(64*n-aQ b))→G9 t b=(aQ t:Int)-aQ b-(if decide (r<0)=true then 1 else 0):=by
  intro n r g1 g2 hr
  have e1:bW (t*2^(64*n-aQ t)) (b*2^(64*n-aQ b))=bW (t*2^aQ b) (b*2^aQ t):=abt (by omega)
  rw[e1]at hr
  unfold G9
  by_cases hl:t*2^aQ b<b*2^aQ t
  ·rw[if_pos hl,hr,iV hl];rfl
  ·have: ¬r<0:=by rw[hr];unfold bW;rw[if_neg hl];split<;>omega
   rw[if_neg hl,decide_eq_false this];rfl
 have HD:=h_ hd
 have H:=h_ (And.intro n1 (And.intro n2 (And.intro t0 (And.intro b0 (And.intro ht hb)))))
 generalize hL:aQ t=L at hbt ht1
 generalize hM:aQ b=M at hbb hb1
 have HL:=h_ hL
 have HM:=h_ hM
 clear h n1 n2 hL hM ht hb t0 b0 h1 hd
 have HB:Hid (Below w.heap.size w (w.alloc (.cells #[.bool s,.slice bo lb cb,.slice (some a2) aS cb2,.int .i64 e] 45))):=h_ ((Below.refl _ _).alloc (Nat.le_refl _) _)
 have hst: ∀wx,Below w.heap.size w wx→Calls prog 233 #[.slice bo lb cb] wx fun en w'=>en=.returned (.int .i64 L)∧w'=wx:=fun wx hb=>by
  refine(size_any wx _ t (H.out.1.below hb) H.out.2.2.2.2.1).mono ?_
  rintro en w' ⟨rfl,rfl⟩
  exact⟨by rw[HL.out],rfl⟩
 have hsb: ∀wx,Below w.heap.size w wx→Calls prog 233 #[.slice (some a2) aS cb2] wx fun en w'=>en=.returned (.int .i64 M)∧w'=wx:=fun wx hb=>by
  refine(size_any wx _ b (H.out.2.1.below hb) H.out.2.2.2.2.2).mono ?_
  rintro en w' ⟨rfl,rfl⟩
  exact⟨by rw[HM.out],rfl⟩
 have HST:=h_ hst
 have HSB:=h_ hsb
 clear hst hsb
 have x1:IntKind.i64.wrap ((L:Int)-M)=(L:Int)-M:=IntWalk.i64_in _ (by omega)
 have x2:IntKind.i64.wrap ((L:Int)-M+e)=(L:Int)-M+e:=IntWalk.i64_in _ (by omega)
 have x3:IntKind.i64.wrap ((L:Int)-M+e-1)=(L:Int)-M+e-1:=IntWalk.i64_in _ (by omega)
 go_enter func194,ntmps194
 go_wp2_with fail
 go_quiet ((go_at_call 233;first
  |(with_reducible exact Calls.quiet_of_same (HST.out _ (HB.out.trans ((aY.step _ _).below _))))
  |(with_reducible exact Calls.quiet_of_same (HSB.out _ (HB.out.trans ((aY.step _ _).below _))))))
 go_wp2_with fail
 generalize hdw:World.drewN _ _=W
 have HW:Hid (Below w.heap.size w W):=h_ (hdw▸HB.out.trans ((aY.step _ _).below _))
 clear hdw
 refine(Xp W _ _ t b (H.out.1.below HW.out) (H.out.2.1.below HW.out) H.out.2.2.1 H.out.2.2.2.1 H.out.2.2.2.2.1 H.out.2.2.2.2.2).mono ?_
 rintro en w5 ⟨n,r,hn1,hn2,hr,rfl,hdr⟩
 have HRR:Hid (G9 t b=(L:Int)-M-(if decide (r<0)=true then 1 else 0)):=h_ (by
  rw[←HL.out,←HM.out]
  exact HD.out n r hn1 hn2 hr)
 have HX:=h_ (HW.out.trans (hdr.below _))
 clear hr hdr hn1 hn2
 go_wp2_with fail
 all_goals
  go_ret
  rename_i hz
  refine⟨congrArg (fun x=>Ending.returned (Value.int .i64 x)) ?_,HX.out⟩
  rw[HRR.out]
  first|(simp[hz];done)|(simp[hz];omega)|(simp at hz;simp[show¬r<0 by omega])
theorem aph{t:Int}(t0:0<t):G9 t 1=(aQ t:Int)-1:=by
 obtain⟨a1,a2,a3⟩:=eF t0
 have h1:aQ (1:Int)=1:=by decide
 unfold G9
 rw[h1,if_neg]
 ·omega
 ·rw[Int.one_mul,show aQ t=aQ t-1+1 by omega,Int.pow_succ,Int.pow_succ,Int.pow_zero];omega
theorem auf(w:World)(s:Bool)(a:Addr)(la ca:Nat)(aU:Option Addr)(aS cb2:Nat)(e R:Int)(hl:Calls prog 194 #[.agg #[.bool s,.slice (some a) la ca,.slice aU aS cb2,.int .i64 e]] (w.alloc (.cells #[.bool s,.slice (some a) la ca,.slice aU aS cb2,.int .i64 e] 45)) (ww (w.alloc (.cells #[.bool s,.slice (some a) la ca,.slice aU aS cb2,.int .i64 e] 45)) R)):
 Calls prog 134 #[.agg #[.bool s,.slice (some a) la ca,.slice aU aS cb2,.int .i64 e]] w (rQ w R 0):=by
 have HB0:Hid (Below w.heap.size w (w.alloc (.cells #[.bool s,.slice (some a) la ca,.slice aU aS cb2,.int .i64 e] 45))):=h_ ((Below.refl _ _).alloc (Nat.le_refl _) _)
 have hl:=h_ hl
 go_enter func134,ntmps134
 go_wp2_with fail
 refine hl.out.mono ?_
 rintro en w1 ⟨rfl,hb⟩
 obtain⟨hc,hf,hz,hbw⟩:=iQ hb
 have HB1:=h_ hbw
 clear hb hbw hf hc hz
 go_wp2_with fail
 go_ret2
 exact⟨rfl,HB1.out⟩
def je(K D k:Int):Int:=if K=0 then 0 else Fq K.natAbs D+k
theorem auh:qs<big:=by
 have h1:=Vo
 have h2:(1:Int)<qs:=by unfold qs;exact LM
 have h3:=Int.mul_lt_mul_of_pos_right h2 (show 0<qs by omega)
 omega
theorem ZB{n:Int}(h0:0<n)(h:n<qs):aQ n≤2400:=(NK (by omega)).2 h
theorem Qb{K D k:Int}(h:fV K D k): -7500≤je K D k∧je K D k≤7500:=by
 obtain⟨h1,h2,h3,h4,h5,h6⟩:=h
 unfold je
 split
 ·omega
 ·rename_i h0
  have b1:=ZB (n:=K.natAbs) (by omega) (by omega)
  have b2:=ZB h3 h4
  unfold Fq
  split<;>omega
theorem aiv{K D k:Int}(h:fV K D k):dU prog TT 134 [.q K D k] ⟨none,.tuple #[.int .i64 (je K D k),.int .i64 (mf K)]⟩:=iJ fun w hE l ha=>by
 obtain⟨v,rfl,s,t,b,e,h1,h2⟩:=LU ha
 obtain⟨f1,f2,f3,f4,f5,f6,f7,f8,f9⟩:=h.ql h2
 have hb:=h2.bounds
 have hqb:=auh
 by_cases t0:t=0
 ·have K0:K=0:=hb.2.2.2.2.1 t0
  subst t0 K0
  obtain⟨bo,lb,cb,aU,aS,cb2,rfl,n1,n2⟩:=h1.ex
  have hz:=n1.nil
  injection hz with z1 z2 z3
  subst z1 z2 z3
  exact(Ti w s aU aS cb2 e).mono fun e w1 h=>⟨_,h.1,rfl,h.2⟩
 ·have tp:0<t:=by omega
  obtain⟨g1,g2,g3⟩:=h2.lg tp
  have eL:je K D k=G9 t b+e:=by unfold je;rw[if_neg g3];omega
  have eE:mf K=0:=by unfold mf;rw[if_neg g3]
  rw[eL,eE]
  have n0:=h1
  obtain⟨bo,lb,cb,aU,aS,cb2,rfl,n1,n2⟩:=h1.ex
  obtain⟨a,rfl⟩: ∃a,bo=some a:=by
   cases bo with
   |none=>have:=n1.isNone;simp at this;omega
   |some a=>exact⟨a,rfl⟩
  have HB:Below w.heap.size w (w.alloc (.cells #[.bool s,.slice (some a) lb cb,.slice aU aS cb2,.int .i64 e] 45)):=(Below.refl _ _).alloc (Nat.le_refl _) _
  refine(auf w s a lb cb aU aS cb2 e (G9 t b+e) ?_).mono fun e w1 h=>⟨_,h.1,rfl,h.2⟩
  by_cases b1:b=1
  ·subst b1
   rw[aph tp]
   exact YR _ _ s t e (n0.below HB) (by omega) tp (by omega) (by omega)
  ·exact aiu _ _ s t b e (n0.below HB) b1 (by omega) tp (by omega) g2 (by omega) (by omega)
theorem afu(K D k:Int):dU prog TT 24 [.q K D k] ⟨none,.int .i64 (pV K)⟩:=iJ fun w hE l ha=>by
 obtain⟨v,rfl,s,t,b,e,h1,h2⟩:=LU ha
 refine(Uu w v s t b e h1).mono ?_
 rintro en w1 ⟨rfl,hb⟩
 refine⟨_,rfl,?_,hb⟩
 show Value.int .i64 (JH s t)=.int .i64 (pV K)
 congr 1
 have hn:=h2.neg
 have hz:=h2.bounds.2.2.2.2
 unfold JH pV
 by_cases h0:t=0
 ·rw[if_pos h0,if_pos (hz.1 h0)]
 ·have hK:K≠0:=fun h=>h0 (hz.2 h)
  rw[if_neg h0,if_neg hK,hn]
  by_cases hl:K<0
  ·simp[hl]
  ·simp[hl]
theorem aiw(K D k:Int):dU prog TT 195 [.q K D k] (Um K.natAbs D k):=iJ fun w hE l ha=>by
 obtain⟨v,rfl,s,t,b,e,h1,h2⟩:=LU ha
 refine(Y6 w v s t b e h1).mono ?_
 rintro en w1 ⟨v',rfl,h3,hb⟩
 refine⟨_,rfl,YP ⟨false,t,b,e,h3,?_⟩,hb⟩
 obtain⟨hD,h2⟩:=h2
 refine⟨hD,?_⟩
 rcases h2 with⟨rfl,rfl,rfl,rfl,rfl⟩|⟨a1,a2,a3,a4,a5,i,j,a6,a7⟩
 ·exact .inl ⟨rfl,rfl,rfl,rfl,rfl⟩
 ·exact .inr ⟨a1,a2,a3,a4,a5,i,j,a6,Qr.amK a2 a4 hD a7⟩
set_option maxRecDepth 100000 in
theorem Vp(w:World)(v:Value)(K D k d:Int)(h:Qn w v K D k)(i:fV K D k)(hd: -20000≤d∧d≤20000):
 Calls prog 168 #[v,.int .i64 d] w (LV w K D (k+d)):=by
 obtain⟨s,t,b,e,h1,h2⟩:=h
 obtain⟨f1,f2,f3,f4,f5,f6,f7,f8,f9⟩:=i.ql h2
 have n0:=h1
 obtain⟨bo,la,ca,aU,aS,cb2,rfl,ht⟩:=h1.ex
 have h3:Qr s t b (if t=0 then e else e+d) K D (k+d):=by
  obtain⟨hD,h2⟩:=h2
  refine⟨hD,?_⟩
  rcases h2 with⟨rfl,rfl,rfl,rfl,rfl⟩|⟨a1,a2,a3,a4,a5,i,j,a6,a7⟩
  ·exact .inl ⟨rfl,rfl,rfl,rfl,rfl⟩
  ·rw[if_neg (by omega)]
   exact .inr ⟨a1,a2,a3,a4,a5,i,j,by omega,a7⟩
 have HS:Hid (∀W,Below w.heap.size w W→Calls prog 204 #[.agg #[.bool s,.slice bo la ca,.slice aU aS cb2,.int .i64 e],.int .i64 d] W (GG W s t b (if t=0 then e else e+d) 0)):=h_ (fun W hb=>Pi W _ s t b e d (n0.below hb) hd.1 hd.2 (by omega) (by omega))
 generalize (if t=0 then e else e+d)=q at HS h3
 have H3:=h_ h3
 clear h1 h2 h3 n0 ht f1 f2 f3 f4 f5 f6 f7 f8 f9 i hd
 go_enter func168,ntmps168
 go_wp2_with fail
 have HT:=yY w #[.bool s,.slice bo la ca,.slice aU aS cb2,.int .i64 e] #[.bool false,.slice none 0 0,.slice none 0 0,.int .i64 0] 45 45
 refine(HS.out _ HT.out.1).mono ?_
 rintro en w1 ⟨v1,rfl,hv,hb⟩
 obtain⟨o,l,c,o2,l2,c2,rfl,hv1,hv2⟩:=hv.ex
 have HV:=h_ hv
 have HT1:=h_ (HT.out.next hb)
 clear hb hv hv1 hv2
 have cB:=HT1.out.2.2.cell
 have fB:=HT1.out.2.2.free
 have lB:=HT1.out.2.2.lt
 go_wp2_with fail
 refine bodyPost_ret (v:=.agg #[.bool s,.slice o l c,.slice o2 l2 c2,.int .i64 q]) (by simp[results,results168,go_sem,cB,lB]) rfl ?_
 have ho:=jd.only (w.heap.size+1) w1 s o l c o2 l2 c2 q
 have hn:=HV.out.only ho HT1.out.2.2.noW
 have hb1:Below w.heap.size w (jd (w.heap.size+1) w1 s o l c o2 l2 c2 q):=HT1.out.1.trans (ho.below HT1.out.1.size (by omega))
 exact⟨_,rfl,⟨s,t,b,q,hn.below ((Below.refl _ _).alloc (Nat.le_refl _) _),H3.out⟩,hb1.alloc hb1.size _⟩
theorem aui{w:World}{K D k:Int}{x:Value}{l:List Value}(h:kL w [.q K D k,.v x] l): ∃v,l=[v,x]∧Qn w v K D k:=by
 obtain⟨v,vs,rfl,h1,h2⟩:=mD h
 rw[wR h2]
 exact⟨v,rfl,ad4 h1⟩
theorem Vq{K D k d:Int}(h:fV K D k)(h1: -20000≤d)(h2:d≤20000):dU prog TT 168 [.q K D k,.v (.int .i64 d)] (Um K D (k+d)):=iJ fun w hE l ha=>by
 obtain⟨v,rfl,a⟩:=aui ha
 refine(Vp w v K D k d a h ⟨h1,h2⟩).mono ?_
 rintro en w1 ⟨v',rfl,h1,hb⟩
 exact⟨_,rfl,YP h1,hb⟩
def amL(xs:List Ar):Option bP:=match xs with
 |[.q K D k]=>some (⟨none,.tuple #[.int .i64 (je K D k),.int .i64 (mf K)]⟩:bP)
 |_=>none
def amM(xs:List Ar):Bool:=match xs with
 |[.q K D k]=>decide (fV K D k)
 |_=>false
def abR:CF→St→Option (Value×St):=bF 134 (aZ TT amM amL)
theorem Vr:aN prog abR:=aP dH gTT jv fun xs R h hp=>by
 unfold amL at h
 split at h
 ·injection h with h
  subst h
  unfold amM at hp;exact aiv (of_decide_eq_true hp)
 ·cases h
def afv(xs:List Ar):Option bP:=match xs with
 |[.q K D k]=>some (⟨none,.int .i64 (pV K)⟩:bP)
 |_=>none
def auk(xs:List Ar):Bool:=match xs with
 |[.q K D k]=>true
 |_=>false
def afw:CF→St→Option (Value×St):=bF 24 (aZ TT auk afv)
theorem afx:aN prog afw:=aP dH gTT jv fun xs R h hp=>by
 unfold afv at h
 split at h
 ·injection h with h
  subst h
  exact afu _ _ _
 ·cases h
def amP(xs:List Ar):Option bP:=match xs with
 |[.q K D k]=>some (Um K.natAbs D k:bP)
 |_=>none
def aww(xs:List Ar):Bool:=match xs with
 |[.q K D k]=>true
 |_=>false
def amQ:CF→St→Option (Value×St):=bF 195 (aZ TT aww amP)
theorem aix:aN prog amQ:=aP dH gTT jv fun xs R h hp=>by
 unfold amP at h
 split at h
 ·injection h with h
  subst h
  exact aiw _ _ _
 ·cases h
def Qc(xs:List Ar):Option bP:=match xs with
 |[.q K D k,.v (.int .i64 d)]=>some (Um K D (k+d):bP)
 |_=>none
def Qd(xs:List Ar):Bool:=match xs with
 |[.q K D k,.v (.int .i64 d)]=>decide (fV K D k∧ -20000≤d∧d≤20000)
 |_=>false
def Qe:CF→St→Option (Value×St):=bF 168 (aZ TT Qd Qc)
theorem Vs:aN prog Qe:=aP dH gTT jv fun xs R h hp=>by
 unfold Qc at h
 split at h
 ·injection h with h
  subst h
  unfold Qd at hp;obtain⟨h1,h2,h3⟩:=of_decide_eq_true hp;exact Vq h1 h2 h3
 ·cases h
end Go.Proofs.YtnapiakfbihnjaaGreatDoor
