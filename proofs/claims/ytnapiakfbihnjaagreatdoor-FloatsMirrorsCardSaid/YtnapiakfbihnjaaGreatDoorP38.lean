/-
  The reference's numbers: quotient, difference, comparison; all of them for numbers with a value.
-/
import Derived.Test.YtnapiakfbihnjaaGreatDoorP37
import Derived.Test.YtnapiakfbihnjaaGreatDoorP20
set_option linter.unusedVariables false
set_option linter.unusedSimpArgs false
set_option maxRecDepth 1000000
set_option maxHeartbeats 4000000
namespace Go.Proofs.YtnapiakfbihnjaaGreatDoor.R
open Go.RowKit Go.Shelf Tryz
structure Zt(w W:World)(g:Nat)(A B:Array Value):Prop where
 bel:Below w.heap.size w W
 a:Box W g A
 b:Box W (g+1) B
theorem Zt.next{w W W':World}{g:Nat}{A B:Array Value}(h:Zt w W g A B)(hb:Below W.heap.size W W'):Zt w W' g A B:=
 ⟨h.bel.trans (hb.mono h.bel.size),h.a.below hb,h.b.below hb⟩
theorem aoM(w:World)(s1 s2:Int)(a1 a2 b1 b2:Option Addr)(l1 c1 l2 c2 m1 k1 m2 k2:Nat)(n d K D:Int)
 (KN:Hid (∀W,Below w.heap.size w W→Calls prog 81 #[.agg #[.int .i64 s2,.slice b1 m1 k1,.slice b2 m2 k2]] W (ae2 W (-s2) n d)))
 (KM:Hid (∀W va,Below w.heap.size w W→Rm W va (-s2) n d→Calls prog 62 #[.agg #[.int .i64 s1,.slice a1 l1 c1,.slice a2 l2 c2],va] W (bK W K D))):
 Calls prog 44 #[.agg #[.int .i64 s1,.slice a1 l1 c1,.slice a2 l2 c2],.agg #[.int .i64 s2,.slice b1 m1 k1,.slice b2 m2 k2]] w (bK w K D):=by
 go_enter func44,ntmps44
 go_wp2_with fail
 obtain⟨hA,hB,hC,hW0⟩:=zS w #[.int .i64 s1,.slice a1 l1 c1,.slice a2 l2 c2] #[.int .i64 s2,.slice b1 m1 k1,.slice b2 m2 k2] dA 61
 obtain⟨g,hg⟩: ∃g,w.heap.size=g:=⟨_,rfl⟩
 have HT0:sG w _ w.heap.size _ _ _:=⟨hW0,hA,hB,hC⟩
 rw[hg]at HT0
 have HG:=h_ hg
 rw[hg]at⊢
 clear hA hB hC hW0 hg
 generalize ((w.alloc (.cells #[.int .i64 s1,.slice a1 l1 c1,.slice a2 l2 c2] 61)).alloc (.cells #[.int .i64 s2,.slice b1 m1 k1,.slice b2 m2 k2] 61)).alloc (.cells dA 61)=W0 at HT0⊢
 have hst: ∀(U1 U2:World),Hid (sG w U1 g #[.int .i64 s1,.slice a1 l1 c1,.slice a2 l2 c2] #[.int .i64 s2,.slice b1 m1 k1,.slice b2 m2 k2] dA)→Below U1.heap.size U1 U2→Hid (sG w U2 g #[.int .i64 s1,.slice a1 l1 c1,.slice a2 l2 c2] #[.int .i64 s2,.slice b1 m1 k1,.slice b2 m2 k2] dA)∧U2.cell? ⟨g,0,none⟩=some (.int .i64 s1)∧U2.cell? ⟨g,1,none⟩=some (.slice a1 l1 c1)∧U2.cell? ⟨g,2,none⟩=some (.slice a2 l2 c2)∧U2.cell? ⟨g+1,0,none⟩=some (.int .i64 s2)∧U2.cell? ⟨g+1,1,none⟩=some (.slice b1 m1 k1)∧U2.cell? ⟨g+1,2,none⟩=some (.slice b2 m2 k2):=fun U1 U2 h hb=>
  have h2:=h.out.next hb
  ⟨h_ h2,h2.a.cell 0,h2.a.cell 1,h2.a.cell 2,h2.b.cell 0,h2.b.cell 1,h2.b.cell 2⟩
 have HSt:=h_ hst
 clear hst
 have HT:=h_ HT0
 have hc0:=HT0.a.cell
 have hc1:=HT0.b.cell
 clear HT0
 obtain⟨HA0,iC,iD,jf,uV,uX,uY⟩:=HSt.out _ _ HT (bz W0)
 go_region_held3 (fun w'=>w'.cell? ⟨g,0,none⟩=some (.int .i64 s1)∧w'.cell? ⟨g,1,none⟩=some (.slice a1 l1 c1)∧w'.cell? ⟨g,2,none⟩=some (.slice a2 l2 c2)∧w'.cell? ⟨g+1,0,none⟩=some (.int .i64 s2)∧w'.cell? ⟨g+1,1,none⟩=some (.slice b1 m1 k1)∧w'.cell? ⟨g+1,2,none⟩=some (.slice b2 m2 k2)) (first|exact⟨iE,iF,jg,uZ,ve,vg⟩|exact⟨iG,iH,jh,vk,vw,vz⟩|exact⟨iC,iD,jf,uV,uX,uY⟩|(simp[go_sem, *];done)|go_keep)
  (first
   |(go_at_call 81;(with_reducible refine(KN.out _ HA0.out.bel).mono ?_);rintro en GV ⟨zA1,rfl,hv,hb⟩;obtain⟨sA1,oA1,lA1,cA1,qA1,mA1,kA1,rfl⟩:=hv.shape;obtain⟨HA1,iG,iH,jh,vk,vw,vz⟩:=HSt.out _ _ HA0 hb;have VA1:=h_ hv;clear hv hb)
   |(go_at_call 62;(with_reducible refine(KM.out _ _ HA1.out.bel VA1.out).mono ?_);rintro en BL ⟨P7,rfl,hv,hb⟩;obtain⟨sA2,Jb,lA2,Jc,qA2,mA2,kA2,rfl⟩:=hv.shape;obtain⟨HA2,iE,iF,jg,uZ,ve,vg⟩:=HSt.out _ _ HA1 hb;have VA2:=h_ hv;have iO:=h_ (VA1.out.below hb);have cC:=HA2.out.c.cell;have fC:=HA2.out.c.free;have lC:=HA2.out.c.lt;clear hv hb))
 clear iC iD jf uV uX uY iG iH jh vk vw vz iE iF jg uZ ve vg
 have xm:=iO
 go_wp2_with fail
 refine bodyPost_ret (v:=.agg #[.int .i64 sA2,.slice Jb lA2 Jc,.slice qA2 mA2 kA2]) (by simp[results,results44,go_sem,cC,lC]) rfl ?_
 have ho:=dI (g+1+1) BL (.int .i64 sA2) (.slice Jb lA2 Jc) (.slice qA2 mA2 kA2)
 exact⟨_,rfl,VA2.out.only HA2.out.c ho,HA2.out.bel.trans (ho.below HA2.out.bel.size (by have:=HG.out;omega))⟩
theorem aoN(w:World)(s1 s2:Int)(a1 a2 b1 b2:Option Addr)(l1 c1 l2 c2 m1 k1 m2 k2:Nat)(d1 d2 p r:Int)(hs1:s1=0∨s1=1∨s1= -1)
 (KP1:Hid (∀W va,Below w.heap.size w W→Nt W va d2→Calls prog 117 #[.slice a1 l1 c1,va] W (bf W p)))
 (KP2:Hid (∀W va,Below w.heap.size w W→Nt W va d1→Calls prog 117 #[.slice b1 m1 k1,va] W (bf W r)))
 (KA:Hid (∀W,Below w.heap.size w W→Calls prog 118 #[.agg #[.int .i64 s1,.slice a1 l1 c1,.slice a2 l2 c2]] W (bf W d1)))
 (KB:Hid (∀W,Below w.heap.size w W→Calls prog 118 #[.agg #[.int .i64 s2,.slice b1 m1 k1,.slice b2 m2 k2]] W (bf W d2)))
 (KC:Hid (∀W va vb,Below w.heap.size w W→Nt W va p→Nt W vb r→Calls prog 116 #[va,vb] W (jr W (.int .i64 (bW p r))))):
 Calls prog 60 #[.agg #[.int .i64 s1,.slice a1 l1 c1,.slice a2 l2 c2],.agg #[.int .i64 s2,.slice b1 m1 k1,.slice b2 m2 k2]] w fun e w'=>e=.returned (.int .i64 (if s1<s2 then-1 else if s2<s1 then 1 else s1*bW p r))∧Below w.heap.size w w':=by
 have hbel:=(oG w #[.int .i64 s1,.slice a1 l1 c1,.slice a2 l2 c2] #[.int .i64 s2,.slice b1 m1 k1,.slice b2 m2 k2] 61).2.2
 have HBl:=h_ hbel
 clear hbel
 by_cases h1:s1<s2
 ·rw[if_pos h1]
  go_enter func60,ntmps60
  go_wp2_with fail
  go_ret
  exact⟨rfl,HBl.out⟩
 ·by_cases h2:s2<s1
  ·rw[if_neg h1,if_pos h2]
   go_enter func60,ntmps60
   go_wp2_with fail
   go_ret
   exact⟨rfl,HBl.out⟩
  rw[if_neg h1,if_neg h2]
  obtain⟨e0,e1⟩:=abu p r
  have hwm:IntKind.i64.wrap (s1*bW p r)=s1*bW p r:=IntWalk.i64_in _ (by rcases hs1 with rfl|rfl|rfl<;>omega)
  clear e0 e1
  go_enter func60,ntmps60
  go_wp2_with fail
  obtain⟨hA,hB,hW0⟩:=oG w #[.int .i64 s1,.slice a1 l1 c1,.slice a2 l2 c2] #[.int .i64 s2,.slice b1 m1 k1,.slice b2 m2 k2] 61
  obtain⟨g,hg⟩: ∃g,w.heap.size=g:=⟨_,rfl⟩
  have HT0:Zt w _ w.heap.size _ _:=⟨hW0,hA,hB⟩
  rw[hg]at HT0
  rw[hg]at⊢
  clear hA hB hW0 hg HBl
  generalize (w.alloc (.cells #[.int .i64 s1,.slice a1 l1 c1,.slice a2 l2 c2] 61)).alloc (.cells #[.int .i64 s2,.slice b1 m1 k1,.slice b2 m2 k2] 61)=W0 at HT0⊢
  have hst: ∀(U1 U2:World),Hid (Zt w U1 g #[.int .i64 s1,.slice a1 l1 c1,.slice a2 l2 c2] #[.int .i64 s2,.slice b1 m1 k1,.slice b2 m2 k2])→Below U1.heap.size U1 U2→Hid (Zt w U2 g #[.int .i64 s1,.slice a1 l1 c1,.slice a2 l2 c2] #[.int .i64 s2,.slice b1 m1 k1,.slice b2 m2 k2])∧U2.cell? ⟨g,0,none⟩=some (.int .i64 s1)∧U2.cell? ⟨g,1,none⟩=some (.slice a1 l1 c1)∧U2.cell? ⟨g,2,none⟩=some (.slice a2 l2 c2)∧U2.cell? ⟨g+1,0,none⟩=some (.int .i64 s2)∧U2.cell? ⟨g+1,1,none⟩=some (.slice b1 m1 k1)∧U2.cell? ⟨g+1,2,none⟩=some (.slice b2 m2 k2):=fun U1 U2 h hb=>
   have h2:=h.out.next hb
   ⟨h_ h2,h2.a.cell 0,h2.a.cell 1,h2.a.cell 2,h2.b.cell 0,h2.b.cell 1,h2.b.cell 2⟩
  have HSt:=h_ hst
  clear hst
  have HT:=h_ HT0
  have hc0:=HT0.a.cell
  have hc1:=HT0.b.cell
  clear HT0
  obtain⟨HA0,iC,iD,jf,uV,uX,uY⟩:=HSt.out _ _ HT (bz W0)
  go_region_held3 (fun w'=>w'.cell? ⟨g,0,none⟩=some (.int .i64 s1)∧w'.cell? ⟨g,1,none⟩=some (.slice a1 l1 c1)∧w'.cell? ⟨g,2,none⟩=some (.slice a2 l2 c2)∧w'.cell? ⟨g+1,0,none⟩=some (.int .i64 s2)∧w'.cell? ⟨g+1,1,none⟩=some (.slice b1 m1 k1)∧w'.cell? ⟨g+1,2,none⟩=some (.slice b2 m2 k2)) (first|exact⟨BB,BC,BD,LY,LZ,L6⟩|exact⟨jD,jE,kS,BF,BG,BH⟩|exact⟨jF,jG,kT,BI,BJ,BK⟩|exact⟨iE,iF,jg,uZ,ve,vg⟩|exact⟨iG,iH,jh,vk,vw,vz⟩|exact⟨iC,iD,jf,uV,uX,uY⟩)
   (first
    |(go_at_call 118;(with_reducible refine(KB.out _ HA0.out.bel).mono ?_);rintro en GV ⟨zA1,rfl,hv,hb⟩;obtain⟨oA1,lA1,cA1,rfl⟩:=hv.shape;obtain⟨HA1,iG,iH,jh,vk,vw,vz⟩:=HSt.out _ _ HA0 hb;have VA1:=h_ hv;clear hv hb)
    |(go_at_call 117;(with_reducible refine(KP1.out _ _ HA1.out.bel VA1.out).mono ?_);rintro en BL ⟨P7,rfl,hv,hb⟩;obtain⟨Jb,lA2,Jc,rfl⟩:=hv.shape;obtain⟨HA2,iE,iF,jg,uZ,ve,vg⟩:=HSt.out _ _ HA1 hb;have VA2:=h_ hv;have iO:=h_ (VA1.out.below hb);clear hv hb)
    |(go_at_call 118;(with_reducible refine(KA.out _ HA2.out.bel).mono ?_);rintro en sH ⟨L8,rfl,hv,hb⟩;obtain⟨L9,lA3,Mc,rfl⟩:=hv.shape;obtain⟨mG,jF,jG,kT,BI,BJ,BK⟩:=HSt.out _ _ HA2 hb;have nV:=h_ hv;have kE:=h_ (iO.out.below hb);have kV:=h_ (VA2.out.below hb);clear hv hb)
    |(go_at_call 117;(with_reducible refine(KP2.out _ _ mG.out.bel nV.out).mono ?_);rintro en wA4 ⟨Zo,rfl,hv,hb⟩;obtain⟨BM,BN,BO,rfl⟩:=hv.shape;obtain⟨HA4,jD,jE,kS,BF,BG,BH⟩:=HSt.out _ _ mG hb;have Aa:=h_ hv;have jM:=h_ (kE.out.below hb);have lQ:=h_ (kV.out.below hb);have kG:=h_ (nV.out.below hb);clear hv hb)
    |(go_at_call 116;(with_reducible refine(KC.out _ _ _ HA4.out.bel lQ.out Aa.out).mono ?_);rintro en wA5 ⟨rfl,hd⟩;have hb:=hd.below wA4.heap.size;obtain⟨Bl,BB,BC,BD,LY,LZ,L6⟩:=HSt.out _ _ HA4 hb;have DD:=h_ (jM.out.below hb);have NW:=h_ (lQ.out.below hb);have DF:=h_ (kG.out.below hb);have NZ:=h_ (Aa.out.below hb);clear hd hb))
  clear iC iD jf uV uX uY iG iH jh vk vw vz iE iF jg uZ ve vg jF jG kT BI BJ BK jD jE kS BF BG BH BB BC BD LY LZ L6
  have xm:=DD
  have EW:=NW
  have BP:=DF
  have awh:=NZ
  go_wp2_with fail
  go_ret
  exact⟨rfl,Bl.out.bel⟩
theorem Rq.cross{w:World}{v:Value}{K D K' D':Int}(h:Rq w v K D)(h0:0<D')(he:K*D'=K'*D):Rq w v K' D':=by
 obtain⟨hD,s,n,d,h1,h2⟩:=h
 refine⟨h0,s,n,d,h1,Int.eq_of_mul_eq_mul_right (show D≠0 by omega) ?_⟩
 have:s*n*D'*D=s*n*D*D':=by grind
 rw[this,h2]
 grind
theorem Rm.ql{w:World}{v:Value}{s n d:Int}(h:Rm w v s n d): ∃a1 l1 c1 a2 l2 c2,v=.agg #[.int .i64 s,.slice a1 l1 c1,.slice a2 l2 c2]∧Nt w (.slice a1 l1 c1) n∧(s=0∨s≠0∧Nt w (.slice a2 l2 c2) d):=by
 obtain⟨a1,l1,c1,a2,l2,c2,e,h1,h2⟩:=h.ex
 refine⟨a1,l1,c1,a2,l2,c2,e,h1,?_⟩
 rcases h2 with⟨h,_⟩|⟨h3,_,_,_,h7⟩
 ·exact .inl h
 ·exact .inr ⟨by omega,h7⟩
theorem N7{a b c:Int}(h:Int.gcd a b=1)(h1:a∣b*c):a∣c:=
 Int.natAbs_dvd_natAbs.1 (Nat.Coprime.dvd_of_dvd_mul_left h (by rw[←Int.natAbs_mul];exact Int.natAbs_dvd_natAbs.2 h1))
theorem Rm.sizes{w:World}{v:Value}{s n d K D:Int}(h:Rm w v s n d)(h0:0<D)(he:s*n*D=K*d):n≤K.natAbs∧d≤D:=by
 have hp:=h.pos
 obtain⟨a1,l1,c1,a2,l2,c2,e,h1,h2⟩:=h.ex
 rcases h2 with⟨h3,h4,h5,_⟩|⟨h3,h4,h5,h6,_⟩
 ·omega
 ·have hK:n*D=K.natAbs*d:=by
   have e1:=congrArg Int.natAbs he
   rw[Int.natAbs_mul,Int.natAbs_mul,Int.natAbs_mul,show s.natAbs=1 by omega,Nat.one_mul]at e1
   have e2:((n.natAbs*D.natAbs:Nat):Int)=((K.natAbs*d.natAbs:Nat):Int):=by rw[e1]
   rw[Int.natCast_mul,Int.natCast_mul,Int.natAbs_of_nonneg (by omega:0≤n),Int.natAbs_of_nonneg (by omega:0≤D),Int.natAbs_of_nonneg (by omega:0≤d)]at e2
   exact e2
  have hk:(0:Int)<K.natAbs:=by
   apply Classical.byContradiction
   intro hc
   have:(K.natAbs:Int)=0:=by omega
   rw[this,Int.zero_mul]at hK
   have:=Int.mul_pos h4 h0
   omega
  constructor
  ·refine Int.le_of_dvd hk ?_
   exact N7 h6 ⟨D,by rw[hK];exact Int.mul_comm _ _⟩
  ·refine Int.le_of_dvd h0 ?_
   exact N7 (by rw[Int.gcd_comm];exact h6) ⟨K.natAbs,by rw[hK];exact Int.mul_comm _ _⟩
def inR(K D:Int):Prop:=(K.natAbs:Int)<pw^980∧D<pw^980
theorem GX{a b:Int}(a0:0≤a)(b0:0≤b)(ha:a<pw^980)(hb:b<pw^980):a*b<pw^1960:=by
 rw[show 1960=980+980 from rfl,Int.pow_add]
 exact Int.lt_of_le_of_lt (Int.mul_le_mul_of_nonneg_left (Int.le_of_lt hb) a0) (Int.mul_lt_mul_of_pos_right ha (ji _))
theorem awo:(pw:Int)^1960*4≤pw^1990:=by
 rw[show 1990=1960+30 from rfl,Int.pow_add]
 exact Int.mul_le_mul_of_nonneg_left (show(4:Int)≤pw^30 by decide) (Int.le_of_lt (ji _))
theorem Ve{x:Int}(h:x<pw^1990):x<big:=by have:=bT (show 1990≤2000 by omega);unfold big;omega
theorem Rm.sg{w:World}{v:Value}{s n d:Int}(h:Rm w v s n d):s=0∨s=1∨s= -1:=by have:=h.pos;omega
structure Two(w:World)(va vb:Value)(K1 D1 K2 D2 s1 n1 d1 s2 n2 d2:Int):Prop where
 a:Rm w va s1 n1 d1
 b:Rm w vb s2 n2 d2
 ea:s1*n1*D1=K1*d1
 eb:s2*n2*D2=K2*d2
 a0:0<D1
 b0:0<D2
 na:n1<pw^980
 nb:n2<pw^980
 da:d1<pw^980
 db:d2<pw^980
theorem Vf{w:World}{va vb:Value}{K1 D1 K2 D2:Int}(h1:Rq w va K1 D1)(h2:Rq w vb K2 D2)(i1:inR K1 D1)(i2:inR K2 D2): ∃s1 n1 d1 s2 n2 d2,Two w va vb K1 D1 K2 D2 s1 n1 d1 s2 n2 d2:=by
 obtain⟨p1,s1,n1,d1,h1,e1⟩:=h1
 obtain⟨p2,s2,n2,d2,h2,e2⟩:=h2
 have b1:=h1.sizes p1 e1
 have b2:=h2.sizes p2 e2
 have:=i1.1
 have:=i1.2
 have:=i2.1
 have:=i2.2
 exact⟨s1,n1,d1,s2,n2,d2,h1,h2,e1,e2,p1,p2,by omega,by omega,by omega,by omega⟩
theorem jH{x:Int}(h:x<pw^980):x<big∧x<pw^1990:=by
 have h1:=bT (show 980≤1990 by omega)
 exact⟨Ve (by omega),by omega⟩
theorem DI{x:Int}(h:x<pw^1960):x<big∧x<pw^1990:=by
 have h1:=bT (show 1960≤1990 by omega)
 exact⟨Ve (by omega),by omega⟩
theorem alu{w:World}{v:Value}{s n d:Int}(h:Rm w v s n d)(x:Int):s=0∧n*x=0∨s=1∨s= -1:=by
 rcases h.pos.2.2 with⟨h1,h2,_⟩|⟨h1,_⟩
 ·exact .inl ⟨h1,by rw[h2,Int.zero_mul]⟩
 ·exact .inr h1
theorem Vg(w:World)(va vb:Value)(K1 D1 K2 D2:Int)(h1:Rq w va K1 D1)(h2:Rq w vb K2 D2)(i1:inR K1 D1)(i2:inR K2 D2):
 Calls prog 62 #[va,vb] w (bK w (K1*D2+K2*D1) (D1*D2)):=by
 obtain⟨s1,n1,d1,s2,n2,d2,T⟩:=Vf h1 h2 i1 i2
 obtain⟨a1,l1,c1,a2,l2,c2,rfl,ha,ha2⟩:=T.a.ql
 obtain⟨b1,m1,k1,b2,m2,k2,rfl,hb,hb2⟩:=T.b.ql
 have pa:=T.a.pos
 have pb:=T.b.pos
 have q1:=GX pa.2.1 (Int.le_of_lt pb.1) T.na T.db
 have q2:=GX pb.2.1 (Int.le_of_lt pa.1) T.nb T.da
 have q3:=DI (GX (Int.le_of_lt pa.1) (Int.le_of_lt pb.1) T.da T.db)
 have r1:=Int.mul_nonneg pa.2.1 (Int.le_of_lt pb.1)
 have r2:=Int.mul_nonneg pb.2.1 (Int.le_of_lt pa.1)
 refine(aos w s1 s2 a1 a2 b1 b2 l1 c1 l2 c2 m1 k1 m2 k2 d1 d2 (n1*d2) (n2*d1) (d1*d2) (alu T.a d2) (alu T.b d1) r1 r2 (Ve (by have:=awo;omega))
  (h_ fun W v hW hv=>kJ W _ v n1 d2 (ha.below hW) hv (jH T.na).1 (jH T.db).1)
  (h_ fun W v hW hv=>kJ W _ v n2 d1 (hb.below hW) hv (jH T.nb).1 (jH T.da).1)
  (h_ fun W hW=>nR W _ s1 n1 d1 (T.a.below hW))
  (h_ fun W hW=>nR W _ s2 n2 d2 (T.b.below hW))
  (h_ fun W va vb _ h1 h2=>kJ W va vb d1 d2 h1 h2 (jH T.da).1 (jH T.db).1)
  (h_ fun W s va vb n _ hs h1 hn h2=>wH W s n (d1*d2) va vb hs h1 h2 hn q3.2 (Int.mul_pos pa.1 pb.1))).mono ?_
 rintro e w' ⟨v,rfl,hv,hb⟩
 refine⟨v,rfl,hv.cross (Int.mul_pos T.a0 T.b0) ?_,hb⟩
 have e1:=T.ea
 have e2:=T.eb
 have:(s1*(n1*d2)+s2*(n2*d1))*(D1*D2)=(s1*n1*D1)*d2*D2+(s2*n2*D2)*d1*D1:=by grind
 rw[this,e1,e2];grind
theorem Rq.neg{w:World}{v:Value}{s n d K D:Int}(h:Rm w v (-s) n d)(h0:0<D)(he:s*n*D=K*d):Rq w v (-K) D:=
 ⟨h0,-s,n,d,h,by rw[Int.neg_mul,Int.neg_mul,he,Int.neg_mul]⟩
theorem ah8(w:World)(va vb:Value)(K1 D1 K2 D2:Int)(h1:Rq w va K1 D1)(h2:Rq w vb K2 D2)(i1:inR K1 D1)(i2:inR K2 D2):
 Calls prog 44 #[va,vb] w (bK w (K1*D2+ -K2*D1) (D1*D2)):=by
 obtain⟨s1,n1,d1,s2,n2,d2,T⟩:=Vf h1 h2 i1 i2
 obtain⟨a1,l1,c1,a2,l2,c2,rfl,ha,ha2⟩:=T.a.ql
 obtain⟨b1,m1,k1,b2,m2,k2,rfl,hb,hb2⟩:=T.b.ql
 exact aoM w s1 s2 a1 a2 b1 b2 l1 c1 l2 c2 m1 k1 m2 k2 n2 d2 _ _
  (h_ fun W hW=>NR W _ s2 n2 d2 (T.b.below hW))
  (h_ fun W v hW hv=>Vg W _ v K1 D1 (-K2) D2 (h1.below hW) (Rq.neg hv T.b0 T.eb) i1 ⟨by rw[Int.natAbs_neg];exact i2.1,i2.2⟩)
theorem aoO{s1 s2 p r:Int}(h1:s1=0∧p=0∨(s1=1∨s1= -1)∧0<p)(h2:s2=0∧r=0∨(s2=1∨s2= -1)∧0<r):(if s1<s2 then-1 else if s2<s1 then 1 else s1*bW p r)=bW (s1*p) (s2*r):=by
 unfold bW
 rcases h1 with⟨rfl,rfl⟩|⟨rfl|rfl,hp⟩<;>rcases h2 with⟨rfl,rfl⟩|⟨rfl|rfl,hr⟩<;>simp<;>(repeat' split)<;>omega
theorem JP(w:World)(va vb:Value)(K1 D1 K2 D2:Int)(h1:Rq w va K1 D1)(h2:Rq w vb K2 D2)(i1:inR K1 D1)(i2:inR K2 D2):
 Calls prog 60 #[va,vb] w fun e w'=>e=.returned (.int .i64 (bW (K1*D2) (K2*D1)))∧Below w.heap.size w w':=by
 obtain⟨s1,n1,d1,s2,n2,d2,T⟩:=Vf h1 h2 i1 i2
 obtain⟨a1,l1,c1,a2,l2,c2,rfl,ha,ha2⟩:=T.a.ql
 obtain⟨b1,m1,k1,b2,m2,k2,rfl,hb,hb2⟩:=T.b.ql
 have pa:=T.a.pos
 have pb:=T.b.pos
 have q1:=DI (GX pa.2.1 (Int.le_of_lt pb.1) T.na T.db)
 have q2:=DI (GX pb.2.1 (Int.le_of_lt pa.1) T.nb T.da)
 refine(aoN w s1 s2 a1 a2 b1 b2 l1 c1 l2 c2 m1 k1 m2 k2 d1 d2 (n1*d2) (n2*d1) T.a.sg
  (h_ fun W v hW hv=>kJ W _ v n1 d2 (ha.below hW) hv (jH T.na).1 (jH T.db).1)
  (h_ fun W v hW hv=>kJ W _ v n2 d1 (hb.below hW) hv (jH T.nb).1 (jH T.da).1)
  (h_ fun W hW=>nR W _ s1 n1 d1 (T.a.below hW))
  (h_ fun W hW=>nR W _ s2 n2 d2 (T.b.below hW))
  (h_ fun W va vb _ h1 h2=>lw W va vb (n1*d2) (n2*d1) h1 h2 q1.1 q2.1)).mono ?_
 rintro e w' ⟨rfl,hb⟩
 refine⟨?_,hb⟩
 have t1:s1=0∧n1*d2=0∨(s1=1∨s1= -1)∧0<n1*d2:=by
  rcases pa.2.2 with⟨h,h',_⟩|⟨h,h'⟩
  ·exact .inl ⟨h,by rw[h',Int.zero_mul]⟩
  ·exact .inr ⟨h,Int.mul_pos h' pb.1⟩
 have t2:s2=0∧n2*d1=0∨(s2=1∨s2= -1)∧0<n2*d1:=by
  rcases pb.2.2 with⟨h,h',_⟩|⟨h,h'⟩
  ·exact .inl ⟨h,by rw[h',Int.zero_mul]⟩
  ·exact .inr ⟨h,Int.mul_pos h' pa.1⟩
 rw[aoO t1 t2,←ET (a:=K1*D2) (b:=K2*D1) (Int.mul_pos pa.1 pb.1),←ET (a:=s1*(n1*d2)) (b:=s2*(n2*d1)) (Int.mul_pos T.a0 T.b0)]
 have e1:=T.ea
 have e2:=T.eb
 have u1:s1*(n1*d2)*(D1*D2)=K1*D2*(d1*d2):=by
  have:s1*(n1*d2)*(D1*D2)=(s1*n1*D1)*(d2*D2):=by grind
  rw[this,e1];grind
 have u2:s2*(n2*d1)*(D1*D2)=K2*D1*(d1*d2):=by
  have:s2*(n2*d1)*(D1*D2)=(s2*n2*D2)*(d1*D1):=by grind
  rw[this,e2];grind
 rw[u1,u2]
theorem Rm.int{w:World}{v:Value}{s n d K D:Int}(h:Rm w v s n d)(h0:0<D)(he:s*n*D=K*d):(d=1)=(D∣K):=by
 apply propext
 constructor
 ·rintro rfl
  exact⟨s*n,by rw[Int.mul_one]at he;rw[←he];exact Int.mul_comm _ _⟩
 ·rintro⟨c,rfl⟩
  have hp:=h.pos
  have e1:s*n=c*d:=Int.eq_of_mul_eq_mul_right (show D≠0 by omega) (by rw[he];grind)
  obtain⟨bo,lb,cb,aU,aS,cb2,rfl,h1,h2⟩:=h.ex
  rcases h2 with⟨_,_,h,_⟩|⟨h3,h4,h5,h6,_⟩
  ·exact h
  ·have h7:d∣n*1:=by
    rw[Int.mul_one]
    rcases h3 with rfl|rfl
    ·exact⟨c,by rw[Int.one_mul]at e1;rw[e1];exact Int.mul_comm _ _⟩
    ·exact⟨-c,by grind⟩
   have:=Int.le_of_dvd (by decide) (N7 (by rw[Int.gcd_comm];exact h6) h7)
   omega
theorem abH(w:World)(v:Value)(K D:Int)(h:Rq w v K D)(hi:inR K D):Calls prog 164 #[v] w fun e w'=>e=.returned (.bool (decide (D∣K)))∧Below w.heap.size w w':=by
 obtain⟨h0,s,n,d,h1,h2⟩:=h
 obtain⟨a1,l1,c1,a2,l2,c2,rfl,-,-⟩:=h1.ql
 have HI:=h1.int h0 h2
 have hd:d<big:=by have:=(h1.sizes h0 h2).2;have:=hi.2;exact(jH (by omega)).1
 have hb:=(Below.refl w.heap.size w).alloc (Nat.le_refl _) (.cells #[.int .i64 s,.slice a1 l1 c1,.slice a2 l2 c2] 61)
 have HX:=h_ hb
 have HB:=h_ (nR _ _ s n d (h1.below hb))
 have HD:=h_ hd
 have HH:=h_ HI
 clear hb h1 h2 HI hd hi
 go_enter func164,ntmps164
 go_wp2_with fail
 refine HB.out.mono ?_
 rintro e w1 ⟨v1,rfl,hv1,hb1⟩
 obtain⟨bo3,lo3,co3,rfl⟩:=hv1.shape
 have HB1:=h_ hb1
 have HV1:=h_ hv1
 clear hv1 hb1 HB
 go_wp2_with fail
 refine(one_any _).mono ?_
 rintro e w2 ⟨v2,rfl,hv2,hb2⟩
 obtain⟨bo4,lo4,co4,rfl⟩:=hv2.shape
 have HC:=h_ (lw w2 _ _ d 1 (HV1.out.below hb2) hv2 HD.out (Int.lt_of_lt_of_le (show(1:Int)<pw^1 by decide) (bT (by omega))))
 have HB2:=h_ (HB1.out.trans (hb2.mono HB1.out.size))
 clear hv2 hb2
 go_wp2_with fail
 refine HC.out.mono ?_
 rintro e w3 ⟨rfl,hd⟩
 have HB3:=h_ (HX.out.trans ((HB2.out.trans (hd.below _)).mono HX.out.size))
 clear HC hd
 have hc:(bW d 1==0)=decide (D∣K):=by rw[qY];exact decide_eq_decide.2 (by rw[HH.out])
 go_wp2_with fail
 go_ret
 exact⟨rfl,HB3.out⟩
theorem atr(n:Nat):(2:Int)^(29*n)≤pw^n:=by
 induction n with
 |zero=>simp
 |succ n ih=>
  rw[show 29*(n+1)=29*n+29 by omega,Int.pow_add,Int.pow_succ pw n]
  exact Int.mul_le_mul ih (show(2:Int)^29≤1000000000 by decide) (by decide) (Int.le_of_lt (ji _))
theorem Me{k:Nat}(h:k≤28000):(2:Int)^k<pw^980:=by
 have h1:=atr 980
 have h2:=rG (show k+1≤29*980 by omega)
 rw[Int.pow_succ]at h2
 have:=au k
 omega
theorem Jd(k:Nat): ∀(w:World),k≤28000→Calls prog 148 #[.int .i64 k] w (bf w (2^k)):=by
 induction k using Nat.strongRecOn with
 |_ k ih=>
  intro w hk
  by_cases h0:k=0
  ·subst h0
   go_enter func148,ntmps148
   go_wp2_with fail
   refine(one_any _).mono ?_
   rintro e w1 ⟨v1,rfl,hv1,hb1⟩
   have HV:=h_ (And.intro hv1 hb1)
   clear hv1 hb1
   go_wp2_with fail
   go_ret
   exact⟨_,rfl,HV.out.1,HV.out.2⟩
  ·obtain⟨j,hj⟩: ∃j:Nat,k/2=j:=⟨_,rfl⟩
   have IH:=h_ (ih j (by omega) w (by omega))
   have hk0:((k:Int)==0)=false:=by simp;omega
   have hd:Int.tdiv (k:Int) 2=(j:Int):=by rw[Int.tdiv_eq_ediv_of_nonneg (by omega)];omega
   have hm:Int.tmod (k:Int) 2=(k:Int)%2:=Int.tmod_eq_emod_of_nonneg (by omega)
   have hw1:IntKind.i64.wrap (j:Int)=(j:Int):=IntWalk.i64_in _ (by omega)
   have hw2:IntKind.i64.wrap ((k:Int)%2)=(k:Int)%2:=IntWalk.i64_in _ (by omega)
   have HK:=h_ (And.intro hk hj)
   clear ih h0 hk hj
   have HL:Hid ((2:Int)^j<big):=h_ (jH (Me (by have:=HK.out;omega))).1
   go_enter func148,ntmps148
   go_wp2_with fail
   refine IH.out.mono ?_
   rintro e w1 ⟨v1,rfl,hv1,hb1⟩
   obtain⟨bo3,lo3,co3,rfl⟩:=hv1.shape
   have HP:=h_ (kJ w1 _ _ _ _ hv1 hv1 HL.out HL.out)
   have HB1:=h_ hb1
   clear hv1 hb1 IH
   go_wp2_with fail
   refine HP.out.mono ?_
   rintro e w2 ⟨v2,rfl,hv2,hb2⟩
   obtain⟨bo4,lo4,co4,rfl⟩:=hv2.shape
   have HB2:=h_ (HB1.out.trans (hb2.mono HB1.out.size))
   rw[←Int.pow_add]at hv2
   have sQ:=h_ hv2
   clear hv2 hb2 HP
   by_cases ho:(k:Int)%2=1
   ·have hb:(2:Int)^(j+j)<big:=(jH (Me (by have:=HK.out;omega))).1
    have HS:=h_ (sum_any w2 _ _ _ _ sQ.out sQ.out hb hb)
    clear hb
    go_wp2_with fail
    refine HS.out.mono ?_
    rintro e w3 ⟨v3,rfl,hv3,hb3⟩
    obtain⟨zU,zV,zW,rfl⟩:=hv3.shape
    have HB3:=h_ (HB2.out.trans (hb3.mono HB2.out.size))
    have HV3:=h_ hv3
    have HO:=h_ ho
    clear hv3 hb3 HS
    go_wp2_with fail
    go_ret
    refine⟨_,rfl,?_,HB3.out⟩
    have e:(2:Int)^k=2^(j+j)+2^(j+j):=by
     rw[show k=j+j+1 by have:=HO.out;have:=HK.out;omega,Int.pow_succ]
     omega
    rw[e];exact HV3.out
   ·have ho':((k:Int)%2==1)=false:=by simp;omega
    have HO:=h_ ho
    clear ho
    go_wp2_with fail
    go_ret
    refine⟨_,rfl,?_,HB2.out⟩
    rw[show j+j=k by have:=HO.out;have:=HK.out;omega]at sQ
    exact sQ.out
structure vH(w W:World)(g:Nat)(A C:Array Value):Prop where
 bel:Below w.heap.size w W
 a:Box W g A
 c:Box W (g+1) C
theorem vH.next{w W W':World}{g:Nat}{A C:Array Value}(h:vH w W g A C)(hb:Below W.heap.size W W'):vH w W' g A C:=
 ⟨h.bel.trans (hb.mono h.bel.size),h.a.below hb,h.c.below hb⟩
theorem ae8(w:World)(s1:Int)(a1 a2:Option Addr)(l1 c1 l2 c2:Nat)(K D d1 d x k j:Int)(hk:k<0)(hj: -k=j)(hw:IntKind.i64.wrap j=j)
 (KA:Hid (∀W,Below w.heap.size w W→Calls prog 118 #[.agg #[.int .i64 s1,.slice a1 l1 c1,.slice a2 l2 c2]] W (bf W d1)))
 (KT:Hid (∀W,Below w.heap.size w W→Calls prog 148 #[.int .i64 j] W (bf W x)))
 (KP:Hid (∀W va vb,Below w.heap.size w W→Nt W va d1→Nt W vb x→Calls prog 117 #[va,vb] W (bf W d)))
 (KM:Hid (∀W vb,Below w.heap.size w W→Nt W vb d→Calls prog 119 #[.int .i64 s1,.slice a1 l1 c1,vb] W (bK W K D))):
 Calls prog 79 #[.agg #[.int .i64 s1,.slice a1 l1 c1,.slice a2 l2 c2],.int .i64 k] w (bK w K D):=by
 go_enter func79,ntmps79
 go_wp2_with fail
 obtain⟨hA,hB,hW0⟩:=oG w #[.int .i64 s1,.slice a1 l1 c1,.slice a2 l2 c2] dA 61
 obtain⟨g,hg⟩: ∃g,w.heap.size=g:=⟨_,rfl⟩
 have HT0:vH w _ w.heap.size _ _:=⟨hW0,hA,hB⟩
 rw[hg]at HT0
 have HG:=h_ hg
 rw[hg]at⊢
 clear hA hB hW0 hg
 generalize (w.alloc (.cells #[.int .i64 s1,.slice a1 l1 c1,.slice a2 l2 c2] 61)).alloc (.cells dA 61)=W0 at HT0⊢
 have hst: ∀(U1 U2:World),Hid (vH w U1 g #[.int .i64 s1,.slice a1 l1 c1,.slice a2 l2 c2] dA)→Below U1.heap.size U1 U2→Hid (vH w U2 g #[.int .i64 s1,.slice a1 l1 c1,.slice a2 l2 c2] dA)∧U2.cell? ⟨g,0,none⟩=some (.int .i64 s1)∧U2.cell? ⟨g,1,none⟩=some (.slice a1 l1 c1)∧U2.cell? ⟨g,2,none⟩=some (.slice a2 l2 c2):=fun U1 U2 h hb=>
  have h2:=h.out.next hb
  ⟨h_ h2,h2.a.cell 0,h2.a.cell 1,h2.a.cell 2⟩
 have HSt:=h_ hst
 clear hst
 have HT:=h_ HT0
 have hc0:=HT0.a.cell
 clear HT0
 obtain⟨HA0,iC,iD,jf⟩:=HSt.out _ _ HT (bz W0)
 go_region_held3 (fun w'=>w'.cell? ⟨g,0,none⟩=some (.int .i64 s1)∧w'.cell? ⟨g,1,none⟩=some (.slice a1 l1 c1)∧w'.cell? ⟨g,2,none⟩=some (.slice a2 l2 c2)) (first|exact⟨jD,jE,kS⟩|exact⟨jF,jG,kT⟩|exact⟨iE,iF,jg⟩|exact⟨iG,iH,jh⟩|exact⟨iC,iD,jf⟩|(simp[go_sem, *];done)|go_keep)
  (first
   |(go_at_call 118;(with_reducible refine(KA.out _ HA0.out.bel).mono ?_);rintro en GV ⟨zA1,rfl,hv,hb⟩;obtain⟨oA1,lA1,cA1,rfl⟩:=hv.shape;obtain⟨HA1,iG,iH,jh⟩:=HSt.out _ _ HA0 hb;have VA1:=h_ hv;clear hv hb)
   |(go_at_call 148;(with_reducible refine(KT.out _ HA1.out.bel).mono ?_);rintro en BL ⟨P7,rfl,hv,hb⟩;obtain⟨Jb,lA2,Jc,rfl⟩:=hv.shape;obtain⟨HA2,iE,iF,jg⟩:=HSt.out _ _ HA1 hb;have VA2:=h_ hv;have iO:=h_ (VA1.out.below hb);clear hv hb)
   |(go_at_call 117;(with_reducible refine(KP.out _ _ _ HA2.out.bel iO.out VA2.out).mono ?_);rintro en sH ⟨L8,rfl,hv,hb⟩;obtain⟨L9,lA3,Mc,rfl⟩:=hv.shape;obtain⟨mG,jF,jG,kT⟩:=HSt.out _ _ HA2 hb;have nV:=h_ hv;have kE:=h_ (iO.out.below hb);have kV:=h_ (VA2.out.below hb);clear hv hb)
   |(go_at_call 119;(with_reducible refine(KM.out _ _ mG.out.bel nV.out).mono ?_);rintro en wA4 ⟨Zo,rfl,hv,hb⟩;obtain⟨sA4,BM,BN,BO,GY,GZ,G5,rfl⟩:=hv.shape;obtain⟨HA4,jD,jE,kS⟩:=HSt.out _ _ mG hb;have Aa:=h_ hv;have jM:=h_ (kE.out.below hb);have lQ:=h_ (kV.out.below hb);have kG:=h_ (nV.out.below hb);have cC:=HA4.out.c.cell;have fC:=HA4.out.c.free;have lC:=HA4.out.c.lt;clear hv hb))
 clear iC iD jf iG iH jh iE iF jg jF jG kT jD jE kS
 have xm:=jM
 have EW:=lQ
 have BP:=kG
 go_wp2_with fail
 refine bodyPost_ret (v:=.agg #[.int .i64 sA4,.slice BM BN BO,.slice GY GZ G5]) (by simp[results,results79,go_sem,cC,lC]) rfl ?_
 have ho:=dI (g+1) wA4 (.int .i64 sA4) (.slice BM BN BO) (.slice GY GZ G5)
 exact⟨_,rfl,Aa.out.only HA4.out.c ho,HA4.out.bel.trans (ho.below HA4.out.bel.size (by have:=HG.out;omega))⟩
theorem afb(w:World)(s1:Int)(a1 a2:Option Addr)(l1 c1 l2 c2:Nat)(K D d1 n x k:Int)(hk: ¬k<0)
 (KA:Hid (∀W,Below w.heap.size w W→Calls prog 118 #[.agg #[.int .i64 s1,.slice a1 l1 c1,.slice a2 l2 c2]] W (bf W d1)))
 (KT:Hid (∀W,Below w.heap.size w W→Calls prog 148 #[.int .i64 k] W (bf W x)))
 (KP:Hid (∀W vb,Below w.heap.size w W→Nt W vb x→Calls prog 117 #[.slice a1 l1 c1,vb] W (bf W n)))
 (KM:Hid (∀W va vb,Below w.heap.size w W→Nt W va n→Nt W vb d1→Calls prog 119 #[.int .i64 s1,va,vb] W (bK W K D))):
 Calls prog 79 #[.agg #[.int .i64 s1,.slice a1 l1 c1,.slice a2 l2 c2],.int .i64 k] w (bK w K D):=by
 go_enter func79,ntmps79
 go_wp2_with fail
 obtain⟨hA,hB,hW0⟩:=oG w #[.int .i64 s1,.slice a1 l1 c1,.slice a2 l2 c2] dA 61
 obtain⟨g,hg⟩: ∃g,w.heap.size=g:=⟨_,rfl⟩
 have HT0:vH w _ w.heap.size _ _:=⟨hW0,hA,hB⟩
 rw[hg]at HT0
 have HG:=h_ hg
 rw[hg]at⊢
 clear hA hB hW0 hg
 generalize (w.alloc (.cells #[.int .i64 s1,.slice a1 l1 c1,.slice a2 l2 c2] 61)).alloc (.cells dA 61)=W0 at HT0⊢
 have hst: ∀(U1 U2:World),Hid (vH w U1 g #[.int .i64 s1,.slice a1 l1 c1,.slice a2 l2 c2] dA)→Below U1.heap.size U1 U2→Hid (vH w U2 g #[.int .i64 s1,.slice a1 l1 c1,.slice a2 l2 c2] dA)∧U2.cell? ⟨g,0,none⟩=some (.int .i64 s1)∧U2.cell? ⟨g,1,none⟩=some (.slice a1 l1 c1)∧U2.cell? ⟨g,2,none⟩=some (.slice a2 l2 c2):=fun U1 U2 h hb=>
  have h2:=h.out.next hb
  ⟨h_ h2,h2.a.cell 0,h2.a.cell 1,h2.a.cell 2⟩
 have HSt:=h_ hst
 clear hst
 have HT:=h_ HT0
 have hc0:=HT0.a.cell
 clear HT0
 obtain⟨HA0,iC,iD,jf⟩:=HSt.out _ _ HT (bz W0)
 go_region_held3 (fun w'=>w'.cell? ⟨g,0,none⟩=some (.int .i64 s1)∧w'.cell? ⟨g,1,none⟩=some (.slice a1 l1 c1)∧w'.cell? ⟨g,2,none⟩=some (.slice a2 l2 c2)) (first|exact⟨jD,jE,kS⟩|exact⟨jF,jG,kT⟩|exact⟨iE,iF,jg⟩|exact⟨iG,iH,jh⟩|exact⟨iC,iD,jf⟩|(simp[go_sem, *];done)|go_keep)
  (first
   |(go_at_call 148;(with_reducible refine(KT.out _ HA0.out.bel).mono ?_);rintro en GV ⟨zA1,rfl,hv,hb⟩;obtain⟨oA1,lA1,cA1,rfl⟩:=hv.shape;obtain⟨HA1,iG,iH,jh⟩:=HSt.out _ _ HA0 hb;have VA1:=h_ hv;clear hv hb)
   |(go_at_call 117;(with_reducible refine(KP.out _ _ HA1.out.bel VA1.out).mono ?_);rintro en BL ⟨P7,rfl,hv,hb⟩;obtain⟨Jb,lA2,Jc,rfl⟩:=hv.shape;obtain⟨HA2,iE,iF,jg⟩:=HSt.out _ _ HA1 hb;have VA2:=h_ hv;have iO:=h_ (VA1.out.below hb);clear hv hb)
   |(go_at_call 118;(with_reducible refine(KA.out _ HA2.out.bel).mono ?_);rintro en sH ⟨L8,rfl,hv,hb⟩;obtain⟨L9,lA3,Mc,rfl⟩:=hv.shape;obtain⟨mG,jF,jG,kT⟩:=HSt.out _ _ HA2 hb;have nV:=h_ hv;have kE:=h_ (iO.out.below hb);have kV:=h_ (VA2.out.below hb);clear hv hb)
   |(go_at_call 119;(with_reducible refine(KM.out _ _ _ mG.out.bel kV.out nV.out).mono ?_);rintro en wA4 ⟨Zo,rfl,hv,hb⟩;obtain⟨sA4,BM,BN,BO,GY,GZ,G5,rfl⟩:=hv.shape;obtain⟨HA4,jD,jE,kS⟩:=HSt.out _ _ mG hb;have Aa:=h_ hv;have jM:=h_ (kE.out.below hb);have lQ:=h_ (kV.out.below hb);have kG:=h_ (nV.out.below hb);have cC:=HA4.out.c.cell;have fC:=HA4.out.c.free;have lC:=HA4.out.c.lt;clear hv hb))
 clear iC iD jf iG iH jh iE iF jg jF jG kT jD jE kS
 have xm:=jM
 have EW:=lQ
 have BP:=kG
 go_wp2_with fail
 refine bodyPost_ret (v:=.agg #[.int .i64 sA4,.slice BM BN BO,.slice GY GZ G5]) (by simp[results,results79,go_sem,cC,lC]) rfl ?_
 have ho:=dI (g+1) wA4 (.int .i64 sA4) (.slice BM BN BO) (.slice GY GZ G5)
 exact⟨_,rfl,Aa.out.only HA4.out.c ho,HA4.out.bel.trans (ho.below HA4.out.bel.size (by have:=HG.out;omega))⟩
theorem EX(w:World)(v:Value)(K D k:Int)(h:Rq w v K D)(hi:inR K D)(k0: -28000≤k)(k1:k≤28000):
 Calls prog 79 #[v,.int .i64 k] w (bK w (K*2^k.toNat) (D*2^(-k).toNat)):=by
 obtain⟨h0,s,n,d,h1,h2⟩:=h
 have hz:=h1.sizes h0 h2
 have i1:=hi.1
 have i2:=hi.2
 have pa:=h1.pos
 obtain⟨a1,l1,c1,a2,l2,c2,rfl,ha,-⟩:=h1.ql
 by_cases hk:k<0
 ·obtain⟨j,hj⟩: ∃j:Nat,-k=j:=⟨(-k).toNat,by omega⟩
  rw[show k.toNat=0 by omega,show(-k).toNat=j by omega,Int.pow_zero,Int.mul_one]
  have hp:=Me (show j≤28000 by omega)
  have z:=DI (GX (Int.le_of_lt pa.1) (Int.le_of_lt (au j)) (by omega) hp)
  refine(ae8 w s a1 a2 l1 c1 l2 c2 (s*n) (d*2^j) d (d*2^j) (2^j) k j hk hj (IntWalk.i64_in _ (by omega))
   (h_ fun W hW=>nR W _ s n d (h1.below hW))
   (h_ fun W hW=>Jd j W (by omega))
   (h_ fun W va vb _ q1 q2=>kJ W va vb d (2^j) q1 q2 (jH (by omega)).1 (jH hp).1)
   (h_ fun W vb hW q=>wH W s n (d*2^j) _ vb h1.sg (ha.below hW) q (jH (by omega)).1 z.2 (Int.mul_pos pa.1 (au j)))).mono ?_
  rintro e w' ⟨v,rfl,hv,hb⟩
  refine⟨v,rfl,hv.cross (Int.mul_pos h0 (au j)) ?_,hb⟩
  rw[←Int.mul_assoc,h2,Int.mul_assoc]
 ·obtain⟨j,rfl⟩: ∃j:Nat,k=j:=⟨k.toNat,by omega⟩
  rw[show((j:Nat):Int).toNat=j by omega,show(-((j:Nat):Int)).toNat=0 by omega,Int.pow_zero,Int.mul_one]
  have hp:=Me (show j≤28000 by omega)
  have z:=DI (GX pa.2.1 (Int.le_of_lt (au j)) (by omega) hp)
  refine(afb w s a1 a2 l1 c1 l2 c2 (s*(n*2^j)) d d (n*2^j) (2^j) j hk
   (h_ fun W hW=>nR W _ s n d (h1.below hW))
   (h_ fun W hW=>Jd j W (by omega))
   (h_ fun W vb hW q2=>kJ W _ vb n (2^j) (ha.below hW) q2 (jH (by omega)).1 (jH hp).1)
   (h_ fun W va vb hW q1 q2=>wH W s (n*2^j) d va vb h1.sg q1 q2 z.1 (jH (by omega)).2 pa.1)).mono ?_
  rintro e w' ⟨v,rfl,hv,hb⟩
  refine⟨v,rfl,hv.cross h0 ?_,hb⟩
  have:s*(n*2^j)*D=s*n*D*2^j:=by grind
  rw[this,h2];grind
theorem Ac(w:World)(x:Int)(x0: -9223372036854775808≤x)(x1:x≤9223372036854775807):Calls prog 97 #[.int .i64 x] w (bK w x 1):=by
 have hX:=(Below.refl w.heap.size w).alloc (Nat.le_refl _) (.cells dA 61)
 have hB:=Box.new w dA 61
 have HX:=h_ hX
 have HB:=h_ hB
 have xW:(1:Int)<pw^1990:=Int.lt_of_lt_of_le (show(1:Int)<pw^1 by decide) (bT (by omega))
 have HN:=h_ (Xr (w.alloc (.cells dA 61)) x.natAbs (by omega) (by omega))
 have HM:Hid (∀W s va vb,(s=0∨s=1∨s= -1)→Nt W va x.natAbs→Nt W vb 1→Calls prog 119 #[.int .i64 s,va,vb] W (bK W (s*x.natAbs) 1)):=h_ fun W s va vb hs h1 h2=>
  wH W s _ 1 va vb hs h1 h2 (by
   have h3:(18446744073709551616:Int)<pw^3:=by decide
   have h4:pw^3≤big:=bT (by omega)
   omega) xW (by decide)
 clear hX hB xW
 obtain⟨y,hy⟩: ∃y:Int,(x.natAbs:Int)=y:=⟨_,rfl⟩
 rw[hy]at HN HM
 by_cases hx:x<0
 ·obtain rfl:x= -y:=by omega
  have q1:IntKind.i64.wrap (-y+1)= -y+1:=IntWalk.i64_in _ (by omega)
  have q2:IntKind.i64.wrap (-(-y+1))=y-1:=by rw[IntWalk.i64_in _ (by omega)];omega
  have q3:IntKind.u64.wrap (y-1)=y-1:=IntWalk.u64_in _ (by omega)
  have q4:IntKind.u64.wrap (y-1+1)=y:=by rw[IntWalk.u64_in _ (by omega)];omega
  go_enter func97,ntmps97
  go_wp2_with fail
  refine HN.out.mono ?_
  rintro e w1 ⟨v1,rfl,hv1,hb1⟩
  obtain⟨o1,l1,c1,rfl⟩:=hv1.shape
  have V1:=h_ hv1
  have B1:=h_ hb1
  clear hv1 hb1 HN
  go_wp2_with fail
  refine(one_any w1).mono ?_
  rintro e w2 ⟨v2,rfl,hv2,hb2⟩
  obtain⟨o2,l2,c2,rfl⟩:=hv2.shape
  have V2:=h_ hv2
  have Vh:=h_ (V1.out.below hb2)
  have B2:=h_ (B1.out.trans (hb2.mono B1.out.size))
  clear hv2 hb2
  go_wp2_with fail
  refine(HM.out w2 ((-1:Int)) _ _ (by omega) Vh.out V2.out).mono ?_
  rintro e w3 ⟨v3,rfl,hv3,hb3⟩
  obtain⟨s3,o3,l3,c3,q3',m3,k3,rfl⟩:=hv3.shape
  have B3:=h_ (B2.out.trans (hb3.mono B2.out.size))
  have V3:=h_ hv3
  have hC:=HB.out.below B3.out
  have HC:=h_ hC
  have cC:=hC.cell
  have fC:=hC.free
  have lC:=hC.lt
  clear hv3 hb3 hC
  go_wp2_with fail
  refine bodyPost_ret (v:=.agg #[.int .i64 s3,.slice o3 l3 c3,.slice q3' m3 k3]) (by simp[results,results97,go_sem,cC,lC]) rfl ?_
  have ho:=dI w.heap.size w3 (.int .i64 s3) (.slice o3 l3 c3) (.slice q3' m3 k3)
  have hV:=V3.out.only HC.out ho
  rw[show(-1:Int)*y= -y by omega]at hV
  exact⟨_,rfl,hV,(HX.out.trans (B3.out.mono (by have:=HX.out.size;exact this))).trans (ho.below (by have:=(HX.out.trans (B3.out.mono (by have:=HX.out.size;exact this))).size;exact this) (Nat.le_refl _))⟩
 ·obtain rfl:x=y:=by omega
  have q1:IntKind.u64.wrap x=x:=IntWalk.u64_in _ (by omega)
  go_enter func97,ntmps97
  go_wp2_with fail
  refine HN.out.mono ?_
  rintro e w1 ⟨v1,rfl,hv1,hb1⟩
  obtain⟨o1,l1,c1,rfl⟩:=hv1.shape
  have V1:=h_ hv1
  have B1:=h_ hb1
  clear hv1 hb1 HN
  go_wp2_with fail
  refine(one_any w1).mono ?_
  rintro e w2 ⟨v2,rfl,hv2,hb2⟩
  obtain⟨o2,l2,c2,rfl⟩:=hv2.shape
  have V2:=h_ hv2
  have Vh:=h_ (V1.out.below hb2)
  have B2:=h_ (B1.out.trans (hb2.mono B1.out.size))
  clear hv2 hb2
  go_wp2_with fail
  refine(HM.out w2 ((1:Int)) _ _ (by omega) Vh.out V2.out).mono ?_
  rintro e w3 ⟨v3,rfl,hv3,hb3⟩
  obtain⟨s3,o3,l3,c3,q3',m3,k3,rfl⟩:=hv3.shape
  have B3:=h_ (B2.out.trans (hb3.mono B2.out.size))
  have V3:=h_ hv3
  have hC:=HB.out.below B3.out
  have HC:=h_ hC
  have cC:=hC.cell
  have fC:=hC.free
  have lC:=hC.lt
  clear hv3 hb3 hC
  go_wp2_with fail
  refine bodyPost_ret (v:=.agg #[.int .i64 s3,.slice o3 l3 c3,.slice q3' m3 k3]) (by simp[results,results97,go_sem,cC,lC]) rfl ?_
  have ho:=dI w.heap.size w3 (.int .i64 s3) (.slice o3 l3 c3) (.slice q3' m3 k3)
  have hV:=V3.out.only HC.out ho
  rw[show(1:Int)*x=x by omega]at hV
  exact⟨_,rfl,hV,(HX.out.trans (B3.out.mono (by have:=HX.out.size;exact this))).trans (ho.below (by have:=(HX.out.trans (B3.out.mono (by have:=HX.out.size;exact this))).size;exact this) (Nat.le_refl _))⟩
theorem zi{x:Int}(h:(x.natAbs:Int)<18446744073709551616):inR x 1:=by
 have h3:(18446744073709551616:Int)<pw^3:=by decide
 have h4:pw^3≤pw^980:=bT (by omega)
 exact⟨by omega,by omega⟩
theorem aia(w:World)(k:Int)(k0: -28000≤k)(k1:k≤28000):Calls prog 58 #[.int .i64 k] w (bK w (2^k.toNat) (2^(-k).toNat)):=by
 have hX:=(Below.refl w.heap.size w).alloc (Nat.le_refl _) (.cells dA 61)
 have hB:=Box.new w dA 61
 have HX:=h_ hX
 have HB:=h_ hB
 have HS:Hid (∀W v,Rq W v 1 1→Calls prog 79 #[v,.int .i64 k] W (bK W (2^k.toNat) (2^(-k).toNat))):=h_ fun W v h=>by
  have:=EX W v 1 1 k h (zi (by decide)) k0 k1
  rwa [Int.one_mul,Int.one_mul]at this
 clear hX hB
 go_enter func58,ntmps58
 go_wp2_with fail
 refine(Ac _ 1 (by decide) (by decide)).mono ?_
 rintro e w1 ⟨v1,rfl,hv1,hb1⟩
 obtain⟨s1,o1,l1,c1,q1,m1,k1',rfl⟩:=hv1.shape
 have V1:=h_ hv1
 have B1:=h_ hb1
 clear hv1 hb1
 go_wp2_with fail
 refine(HS.out _ _ V1.out).mono ?_
 rintro e w3 ⟨v3,rfl,hv3,hb3⟩
 obtain⟨s3,o3,l3,c3,q3',m3,k3,rfl⟩:=hv3.shape
 have B3:=h_ (B1.out.trans (hb3.mono B1.out.size))
 have V3:=h_ hv3
 have hC:=HB.out.below B3.out
 have HC:=h_ hC
 have cC:=hC.cell
 have fC:=hC.free
 have lC:=hC.lt
 clear hv3 hb3 hC HS
 go_wp2_with fail
 refine bodyPost_ret (v:=.agg #[.int .i64 s3,.slice o3 l3 c3,.slice q3' m3 k3]) (by simp[results,results58,go_sem,cC,lC]) rfl ?_
 have ho:=dI w.heap.size w3 (.int .i64 s3) (.slice o3 l3 c3) (.slice q3' m3 k3)
 have hV:=V3.out.only HC.out ho
 exact⟨_,rfl,hV,(HX.out.trans (B3.out.mono (by have:=HX.out.size;exact this))).trans (ho.below (by have:=(HX.out.trans (B3.out.mono (by have:=HX.out.size;exact this))).size;exact this) (Nat.le_refl _))⟩
theorem afc(w:World)(s1:Int)(a1 a2:Option Addr)(l1 c1 l2 c2:Nat)(n d1 D:Int)(K:Int)(n0:0≤n)(hs:s1=0∨s1=1∨s1= -1)(hd:0<d1)(hn:n<pw^980)
 (hK:K=s1*(if s1<0∧n%d1≠0 then n/d1+1 else n/d1))
 (KA:Hid (∀W,Below w.heap.size w W→Calls prog 118 #[.agg #[.int .i64 s1,.slice a1 l1 c1,.slice a2 l2 c2]] W (bf W d1)))
 (KD:Hid (∀W vb,Below w.heap.size w W→Nt W vb d1→Calls prog 163 #[.slice a1 l1 c1,vb] W (rO W n d1))):
 Calls prog 98 #[.agg #[.int .i64 s1,.slice a1 l1 c1,.slice a2 l2 c2]] w (bK w K 1):=by
 have hq0:0≤n/d1:=Int.ediv_nonneg n0 (by omega)
 have hq1:n/d1≤n:=Int.ediv_le_self _ n0
 have HQ:=h_ (And.intro hq0 hq1)
 have HNn:=h_ hn
 have KO:Hid (∀W,Below w.heap.size w W→Calls prog 162 #[] W (bf W 1)):=h_ fun W _=>one_any W
 have HK:=h_ hK
 have HD0:=h_ (And.intro hd n0)
 have xW:Hid ((1:Int)<pw^980):=h_ (Int.lt_of_lt_of_le (show(1:Int)<pw^1 by decide) (bT (by omega)))
 clear hq0 hq1 hn hK hd n0
 go_enter func98,ntmps98
 go_wp2_with fail
 obtain⟨hA,hB,hW0⟩:=oG w #[.int .i64 s1,.slice a1 l1 c1,.slice a2 l2 c2] dA 61
 obtain⟨g,hg⟩: ∃g,w.heap.size=g:=⟨_,rfl⟩
 have HT0:vH w _ w.heap.size _ _:=⟨hW0,hA,hB⟩
 rw[hg]at HT0
 have HG:=h_ hg
 rw[hg]at⊢
 clear hA hB hW0 hg
 generalize (w.alloc (.cells #[.int .i64 s1,.slice a1 l1 c1,.slice a2 l2 c2] 61)).alloc (.cells dA 61)=W0 at HT0⊢
 have hst: ∀(U1 U2:World),Hid (vH w U1 g #[.int .i64 s1,.slice a1 l1 c1,.slice a2 l2 c2] dA)→Below U1.heap.size U1 U2→Hid (vH w U2 g #[.int .i64 s1,.slice a1 l1 c1,.slice a2 l2 c2] dA)∧U2.cell? ⟨g,0,none⟩=some (.int .i64 s1)∧U2.cell? ⟨g,1,none⟩=some (.slice a1 l1 c1)∧U2.cell? ⟨g,2,none⟩=some (.slice a2 l2 c2):=fun U1 U2 h hb=>
  have h2:=h.out.next hb
  ⟨h_ h2,h2.a.cell 0,h2.a.cell 1,h2.a.cell 2⟩
 have HSt:=h_ hst
 clear hst
 have HT:=h_ HT0
 have hc0:=HT0.a.cell
 clear HT0
 obtain⟨HA0,iC,iD,jf⟩:=HSt.out _ _ HT (bz W0)
 go_region_held3 (fun w'=>w'.cell? ⟨g,0,none⟩=some (.int .i64 s1)∧w'.cell? ⟨g,1,none⟩=some (.slice a1 l1 c1)∧w'.cell? ⟨g,2,none⟩=some (.slice a2 l2 c2)) (first|exact⟨iE,iF,jg⟩|exact⟨iG,iH,jh⟩|exact⟨iC,iD,jf⟩)
  (first
   |(go_at_call 118;(with_reducible refine(KA.out _ HA0.out.bel).mono ?_);rintro en GV ⟨zA1,rfl,hv,hb⟩;obtain⟨oA1,lA1,cA1,rfl⟩:=hv.shape;obtain⟨HA1,iG,iH,jh⟩:=HSt.out _ _ HA0 hb;have VA1:=h_ hv;clear hv hb)
   |(go_at_call 163;(with_reducible refine(KD.out _ _ HA1.out.bel VA1.out).mono ?_);rintro en BL ⟨zq,zr,rfl,hv,hr,hb⟩;obtain⟨oq,lq,cq,rfl⟩:=hv.shape;obtain⟨Yn,lr,cr,rfl⟩:=hr.shape;have VR:=h_ hr;obtain⟨HA2,iE,iF,jg⟩:=HSt.out _ _ HA1 hb;have VA2:=h_ hv;have iO:=h_ (VA1.out.below hb);clear hv hr hb))
 clear iC iD jf iG iH jh iE iF jg
 have xm:=iO
 have hcA:=HA2.out.a.cell
 have hrl:(lr=0∧n%d1=0)∨(0<lr∧n%d1≠0):=by
  rcases VR.out with⟨h1,p,cap,e,_⟩|⟨b,off,cap,zs,e,h⟩
  ·cases e;exact .inl ⟨rfl,h1⟩
  ·cases e;exact .inr ⟨h.pos,by have:=h.npos;omega⟩
 by_cases hneg:s1<0∧n%d1≠0
 ·have hlr:0<lr:=by omega
  have hs0:=hneg.1
  have HK2:Hid (K=s1*(n/d1+1)):=h_ (by have:=HK.out;rwa [if_pos hneg]at this)
  clear hneg hrl
  go_wp2_with fail
  refine(one_any _).mono ?_
  rintro e w3 ⟨v3,rfl,hv,hb⟩
  obtain⟨o3,l3,c3,rfl⟩:=hv.shape
  have H3:=h_ (HA2.out.next hb)
  have KS:=h_ (sum_any w3 _ _ _ 1 (VA2.out.below hb) hv (jH (by have:=HQ.out;have:=HNn.out;omega)).1 (jH xW.out).1)
  clear hv hb
  go_wp2_with fail
  refine KS.out.mono ?_
  rintro e w4 ⟨v4,rfl,hv,hb⟩
  obtain⟨o4,l4,c4,rfl⟩:=hv.shape
  have H4:=h_ (H3.out.next hb)
  have VQ4:=h_ hv
  have KM:Hid (∀W va vb,Below w.heap.size w W→Nt W va (n/d1+1)→Nt W vb 1→Calls prog 119 #[.int .i64 s1,va,vb] W (bK W K 1)):=h_ fun W va vb _ h1 h2=>by
   have:=wH W s1 _ 1 va vb hs h1 h2 (DI (by have:=HQ.out;have:=HNn.out;have:=GX (show(0:Int)≤1 by decide) (show(0:Int)≤1 by decide) xW.out xW.out;have h4:=bT (show 981≤1960 by omega);rw[show 981=980+1 from rfl,Int.pow_succ,show pw^980*pw=1000000000*pw^980 by rw[Int.mul_comm];rfl]at h4;omega)).1 (jH xW.out).2 (by decide)
   rw[HK2.out];exact this
  clear hv hb hcA KS
  go_wp2_with fail
  obtain⟨HB0,BQ,BR,BU⟩:=HSt.out _ _ H4 (bz w4)
  have abI:=h_ (VQ4.out.below (bz w4))
  go_region_held3 (fun w'=>w'.cell? ⟨g,0,none⟩=some (.int .i64 s1)∧w'.cell? ⟨g,1,none⟩=some (.slice a1 l1 c1)∧w'.cell? ⟨g,2,none⟩=some (.slice a2 l2 c2)) (first|exact⟨BV,BX,BZ⟩|exact⟨Cb,Cc,Ce⟩|exact⟨BQ,BR,BU⟩|(simp[go_sem, *];done)|go_keep)
   (first
    |(go_at_call 162;(with_reducible refine(KO.out _ HB0.out.bel).mono ?_);rintro en wB1 ⟨zB1,rfl,hv,hb⟩;obtain⟨oB1,lB1,cB1,rfl⟩:=hv.shape;obtain⟨HB1,Cb,Cc,Ce⟩:=HSt.out _ _ HB0 hb;have Md:=h_ hv;have DJ:=h_ (abI.out.below hb);clear hv hb)
    |(go_at_call 119;(with_reducible refine(KM.out _ _ _ HB1.out.bel DJ.out Md.out).mono ?_);rintro en wB2 ⟨zB2,rfl,hv,hb⟩;obtain⟨sB2,Vd,lB2,cB2,qB2,mB2,kB2,rfl⟩:=hv.shape;obtain⟨HB2,BV,BX,BZ⟩:=HSt.out _ _ HB1 hb;have VB2:=h_ hv;have N8:=h_ (DJ.out.below hb);have zh:=h_ (Md.out.below hb);have cC:=HB2.out.c.cell;have fC:=HB2.out.c.free;have lC:=HB2.out.c.lt;clear hv hb))
  clear BQ BR BU Cb Cc Ce BV BX BZ
  have awp:=N8
  have akB:=zh
  go_wp2_with fail
  refine bodyPost_ret (v:=.agg #[.int .i64 sB2,.slice Vd lB2 cB2,.slice qB2 mB2 kB2]) (by simp[results,results98,go_sem,cC,lC]) rfl ?_
  have ho:=dI (g+1) wB2 (.int .i64 sB2) (.slice Vd lB2 cB2) (.slice qB2 mB2 kB2)
  exact⟨_,rfl,VB2.out.only HB2.out.c ho,HB2.out.bel.trans (ho.below HB2.out.bel.size (by have:=HG.out;omega))⟩
 ·have HK2:Hid (K=s1*(n/d1)):=h_ (by have:=HK.out;rwa [if_neg hneg]at this)
  have KM:Hid (∀W va vb,Below w.heap.size w W→Nt W va (n/d1)→Nt W vb 1→Calls prog 119 #[.int .i64 s1,va,vb] W (bK W K 1)):=h_ fun W va vb _ h1 h2=>by
   have:=wH W s1 _ 1 va vb hs h1 h2 (jH (by have:=HQ.out;have:=HNn.out;omega)).1 (jH xW.out).2 (by decide)
   rw[HK2.out];exact this
  have H4:=HA2
  have VQ4:=VA2
  by_cases hs0:s1<0
  case' pos=>
   have hlr:lr=0:=by omega
   subst hlr
  all_goals
   clear hneg hrl
   go_wp2_with fail
   obtain⟨HB0,BQ,BR,BU⟩:=HSt.out _ _ H4 (bz BL)
   have abI:=h_ (VQ4.out.below (bz BL))
   go_region_held3 (fun w'=>w'.cell? ⟨g,0,none⟩=some (.int .i64 s1)∧w'.cell? ⟨g,1,none⟩=some (.slice a1 l1 c1)∧w'.cell? ⟨g,2,none⟩=some (.slice a2 l2 c2)) (first|exact⟨BV,BX,BZ⟩|exact⟨Cb,Cc,Ce⟩|exact⟨BQ,BR,BU⟩|(simp[go_sem, *];done)|go_keep)
    (first
     |(go_at_call 162;(with_reducible refine(KO.out _ HB0.out.bel).mono ?_);rintro en wB1 ⟨zB1,rfl,hv,hb⟩;obtain⟨oB1,lB1,cB1,rfl⟩:=hv.shape;obtain⟨HB1,Cb,Cc,Ce⟩:=HSt.out _ _ HB0 hb;have Md:=h_ hv;have DJ:=h_ (abI.out.below hb);clear hv hb)
     |(go_at_call 119;(with_reducible refine(KM.out _ _ _ HB1.out.bel DJ.out Md.out).mono ?_);rintro en wB2 ⟨zB2,rfl,hv,hb⟩;obtain⟨sB2,Vd,lB2,cB2,qB2,mB2,kB2,rfl⟩:=hv.shape;obtain⟨HB2,BV,BX,BZ⟩:=HSt.out _ _ HB1 hb;have VB2:=h_ hv;have N8:=h_ (DJ.out.below hb);have zh:=h_ (Md.out.below hb);have cC:=HB2.out.c.cell;have fC:=HB2.out.c.free;have lC:=HB2.out.c.lt;clear hv hb))
   clear BQ BR BU Cb Cc Ce BV BX BZ
   have awp:=N8
   have akB:=zh
   go_wp2_with fail
   refine bodyPost_ret (v:=.agg #[.int .i64 sB2,.slice Vd lB2 cB2,.slice qB2 mB2 kB2]) (by simp[results,results98,go_sem,cC,lC]) rfl ?_
   have ho:=dI (g+1) wB2 (.int .i64 sB2) (.slice Vd lB2 cB2) (.slice qB2 mB2 kB2)
   exact⟨_,rfl,VB2.out.only HB2.out.c ho,HB2.out.bel.trans (ho.below HB2.out.bel.size (by have:=HG.out;omega))⟩
theorem afg{s n d:Int}(hs:s=0∧n=0∨s=1∨s= -1)(hd:0<d)(n0:0≤n):s*(if s<0∧n%d≠0 then n/d+1 else n/d)=(s*n)/d:=by
 have e:=Int.mul_ediv_add_emod n d
 have r0:=Int.emod_nonneg n (show d≠0 by omega)
 have r1:=Int.emod_lt_of_pos n hd
 rcases hs with⟨rfl,rfl⟩|rfl|rfl
 ·simp
 ·rw[if_neg (by omega),Int.one_mul,Int.one_mul]
 ·split
  ·rename_i h
   symm
   rw[Int.ediv_eq_iff_of_pos hd]
   generalize n/d=q at*
   generalize n%d=r at*
   constructor<;>grind
  ·rename_i h
   have hr:n%d=0:=by omega
   symm
   rw[Int.ediv_eq_iff_of_pos hd]
   generalize n/d=q at*
   rw[hr]at e
   constructor<;>grind
theorem aib{s n d K D:Int}(hd:0<d)(hD:0<D)(he:s*n*D=K*d):(s*n)/d=K/D:=by
 rw[←Int.mul_ediv_mul_of_pos_left (s*n) d hD,he,Int.mul_comm d D,←Int.mul_ediv_mul_of_pos_left K D hd]
theorem abJ(w:World)(v:Value)(K D:Int)(h:Rq w v K D)(hi:inR K D):Calls prog 98 #[v] w (bK w (K/D) 1):=by
 obtain⟨h0,s,n,d,h1,h2⟩:=h
 have hz:=h1.sizes h0 h2
 have i1:=hi.1
 have i2:=hi.2
 have pa:=h1.pos
 obtain⟨a1,l1,c1,a2,l2,c2,rfl,ha,-⟩:=h1.ql
 exact afc w s a1 a2 l1 c1 l2 c2 n d D (K/D) pa.2.1 h1.sg pa.1 (by omega) (by rw[afg (by omega) pa.1 pa.2.1,aib pa.1 h0 h2])
  (h_ fun W hW=>nR W _ s n d (h1.below hW))
  (h_ fun W vb hW hv=>xg W _ vb n d (ha.below hW) hv (jH (by omega)).1 (jH (by omega)).2 (by omega))
structure Tho(w W:World)(g:Nat)(A:Array Value):Prop where
 bel:Below w.heap.size w W
 a:Box W g A
theorem Tho.next{w W W':World}{g:Nat}{A:Array Value}(h:Tho w W g A)(hb:Below W.heap.size W W'):Tho w W' g A:=
 ⟨h.bel.trans (hb.mono h.bel.size),h.a.below hb⟩
theorem Bi(w:World)(s1:Int)(a1 a2:Option Addr)(l1 c1 l2 c2:Nat)(x n d:Int)(h:Rm w (.agg #[.int .i64 s1,.slice a1 l1 c1,.slice a2 l2 c2]) s1 n d)(he:s1*n*1=x*d)(x0:0≤x)(x1:x<4294967296):
 Calls prog 147 #[.agg #[.int .i64 s1,.slice a1 l1 c1,.slice a2 l2 c2]] w fun e w'=>e=.returned (.tuple #[.int .i64 x,.int .i64 0])∧Below w.heap.size w w':=by
 have hq:Rq w (.agg #[.int .i64 s1,.slice a1 l1 c1,.slice a2 l2 c2]) x 1:=⟨by decide,s1,n,d,h,he⟩
 have KI:=h_ (fun W (hW:Below w.heap.size w W)=>abH W _ x 1 (hq.below hW) (zi (by omega)))
 have KI1:Hid (∀W,Below w.heap.size w W→Calls prog 97 #[.int .i64 (-9223372036854775808)] W (bK W (-9223372036854775808) 1)):=h_ fun W _=>Ac W _ (by decide) (by decide)
 have KI2:Hid (∀W,Below w.heap.size w W→Calls prog 97 #[.int .i64 9223372036854775807] W (bK W 9223372036854775807 1)):=h_ fun W _=>Ac W _ (by decide) (by decide)
 have KC1:Hid (∀W vb,Below w.heap.size w W→Rq W vb (-9223372036854775808) 1→Calls prog 60 #[.agg #[.int .i64 s1,.slice a1 l1 c1,.slice a2 l2 c2],vb] W fun e w'=>e=.returned (.int .i64 1)∧Below W.heap.size W w'):=h_ fun W vb hW hv=>by
  have:=JP W _ vb x 1 _ 1 (hq.below hW) hv (zi (by omega)) (zi (by decide))
  rwa [mJ (by omega)]at this
 have KC2:Hid (∀W vb,Below w.heap.size w W→Rq W vb 9223372036854775807 1→Calls prog 60 #[.agg #[.int .i64 s1,.slice a1 l1 c1,.slice a2 l2 c2],vb] W fun e w'=>e=.returned (.int .i64 (-1))∧Below W.heap.size W w'):=h_ fun W vb hW hv=>by
  have:=JP W _ vb x 1 _ 1 (hq.below hW) hv (zi (by omega)) (zi (by decide))
  rwa [iV (by omega)]at this
 have hsn:s1*n=x∧(x=0∧n=0∨s1=1∧n=x):=by
  have hd:=h.int (K:=x) (D:=1) (by decide) he
  have hd1:d=1:=hd.mpr (Int.one_dvd _)
  rw[hd1,Int.mul_one,Int.mul_one]at he
  refine⟨he,?_⟩
  rcases h.pos.2.2 with⟨q1,q2,_⟩|⟨q1|q1,q2⟩
  ·exact .inl ⟨by rw[←he,q2,Int.mul_zero],q2⟩
  ·exact .inr ⟨q1,by rw[←he,q1,Int.one_mul]⟩
  ·rw[q1]at he;omega
 have hdv:(decide ((1:Int)∣x))=true:=by simp
 obtain⟨a1',l1',c1',a2',l2',c2',e,ha,-⟩:=h.ql
 cases e
 have HN:=h_ ha
 have HS:=h_ hsn
 clear hq h he ha hsn
 go_enter func147,ntmps147
 go_wp2_with fail
 obtain⟨g,hg⟩: ∃g,w.heap.size=g:=⟨_,rfl⟩
 have hX:=(Below.refl w.heap.size w).alloc (Nat.le_refl _) (.cells #[.int .i64 s1,.slice a1 l1 c1,.slice a2 l2 c2] 61)
 have HT0:Tho w _ w.heap.size _:=⟨hX,Box.new w #[.int .i64 s1,.slice a1 l1 c1,.slice a2 l2 c2] 61⟩
 rw[hg]at HT0
 rw[hg]at⊢
 clear hX hg
 generalize w.alloc (.cells #[.int .i64 s1,.slice a1 l1 c1,.slice a2 l2 c2] 61)=W0 at HT0⊢
 have hst: ∀(U1 U2:World),Hid (Tho w U1 g #[.int .i64 s1,.slice a1 l1 c1,.slice a2 l2 c2])→Below U1.heap.size U1 U2→Hid (Tho w U2 g #[.int .i64 s1,.slice a1 l1 c1,.slice a2 l2 c2])∧U2.cell? ⟨g,0,none⟩=some (.int .i64 s1)∧U2.cell? ⟨g,1,none⟩=some (.slice a1 l1 c1)∧U2.cell? ⟨g,2,none⟩=some (.slice a2 l2 c2):=fun U1 U2 h hb=>
  have h2:=h.out.next hb
  ⟨h_ h2,h2.a.cell 0,h2.a.cell 1,h2.a.cell 2⟩
 have HSt:=h_ hst
 clear hst
 have HT:=h_ HT0
 clear HT0
 refine(KI.out _ HT.out.bel).mono ?_
 rintro e w2 ⟨rfl,hb⟩
 obtain⟨H2,p0,p1,p2⟩:=HSt.out _ _ HT hb
 rw[hdv]
 clear hb
 go_wp2_with fail
 obtain⟨HA0,iC,iD,jf⟩:=HSt.out _ _ H2 (bz w2)
 go_region_held3 (fun w'=>w'.cell? ⟨g,0,none⟩=some (.int .i64 s1)∧w'.cell? ⟨g,1,none⟩=some (.slice a1 l1 c1)∧w'.cell? ⟨g,2,none⟩=some (.slice a2 l2 c2)) (first|exact⟨jD,jE,kS⟩|exact⟨jF,jG,kT⟩|exact⟨iE,iF,jg⟩|exact⟨iG,iH,jh⟩|exact⟨iC,iD,jf⟩)
  (first
   |(go_at_call 97;(with_reducible refine(KI1.out _ HA0.out.bel).mono ?_);rintro en GV ⟨zA1,rfl,hv,hb⟩;obtain⟨sA1,oA1,lA1,cA1,qA1,mA1,kA1,rfl⟩:=hv.shape;obtain⟨HA1,iG,iH,jh⟩:=HSt.out _ _ HA0 hb;have VA1:=h_ hv;clear hv hb)
   |(go_at_call 60;(with_reducible refine(KC1.out _ _ HA1.out.bel VA1.out).mono ?_);rintro en BL ⟨rfl,hb⟩;obtain⟨HA2,iE,iF,jg⟩:=HSt.out _ _ HA1 hb;have iO:=h_ (VA1.out.below hb);clear hb)
   |(go_at_call 97;(with_reducible refine(KI2.out _ HA2.out.bel).mono ?_);rintro en sH ⟨L8,rfl,hv,hb⟩;obtain⟨sA3,L9,lA3,Mc,qA3,mA3,kA3,rfl⟩:=hv.shape;obtain⟨mG,jF,jG,kT⟩:=HSt.out _ _ HA2 hb;have nV:=h_ hv;have kE:=h_ (iO.out.below hb);clear hv hb)
   |(go_at_call 60;(with_reducible refine(KC2.out _ _ mG.out.bel nV.out).mono ?_);rintro en wA4 ⟨rfl,hb⟩;obtain⟨HA4,jD,jE,kS⟩:=HSt.out _ _ mG hb;have jM:=h_ (kE.out.below hb);have kG:=h_ (nV.out.below hb);clear hb))
 clear iC iD jf iG iH jh iE iF jg jF jG kT jD jE kS
 have xm:=jM
 have BP:=kG
 have hcA:=HA4.out.a.cell
 have HB0:=h_ HA4.out.bel
 have HNX:Hid (n=x):=h_ (by have:=HS.out;omega)
 have hD:=(HN.out.below HA4.out.bel).dg
 obtain⟨p,cap,zs,e,hD,hv,hc⟩:=hD
 cases e
 have HDg:=h_ hD
 have HV:=h_ hv
 have hcap:=hD.cap
 have HC0:=h_ hc
 clear hD hv hc HN
 obtain⟨l,HL⟩: ∃l,Hid (zs.length=l):=⟨_,h_ rfl⟩
 have hl:=HL.out
 rw[hl]at hcap hcA HA4⊢
 clear hl
 have hll:l≤2:=by
  rw[←HL.out]
  exact iI HDg.out.wd HC0.out HV.out (by rw[HNX.out];exact Int.lt_trans x1 (show(4294967296:Int)<pw^2 by decide))
 have qq:IntKind.i64.wrap ((l:Int)-1)=(l:Int)-1:=IntWalk.i64_in _ (by omega)
 have qq2:IntKind.i64.wrap ((zs.length:Int)-1)=(l:Int)-1:=by rw[HL.out];exact qq
 go_wp2_with fail
 go_loopw [4,5] (fun u v wr=> ∃m:Nat,m≤l∧u=.int .i64 (nv (zs.drop m))∧v=.int .i64 ((m:Int)-1)∧Hid (Below wA4.heap.size wA4 wr)) (fun _ v _=>(intOf v+1).toNat)
 case atStart=>exact⟨l,Nat.le_refl _,by rw[←HL.out,List.drop_length];rfl,rfl,h_ (Below.refl _ _)⟩
 case round=>
  clear qq qq2
  obtain⟨m,hm,rfl,rfl,hbi⟩:=hrel
  rcases m with _|m
  ·have hx:nv (zs.drop 0)=x:=by rw[List.drop_zero,HV.out,HNX.out]
   rw[hx]
   clear hx
   go_wp2_with fail
   go_ret2
   exact⟨rfl,HB0.out.trans (hbi.out.mono HB0.out.size)⟩
  ·have e:(((m+1:Nat):Int)-1)=(m:Int):=by omega
   rw[e]
   clear e
   obtain⟨b,off,rfl,hb,hrow⟩:=HDg.out.row (by intro e;rw[e]at HL;have:=HL.out;simp at this;omega)
   have hz:=IG (za:=zs) (m:=m) (by rw[HL.out];omega)
   have hle:nv (zs.drop m)≤x:=by
    have h1:=gy zs m (by rw[HL.out];omega)
    rw[HV.out,HNX.out]at h1
    have h2:=dw (eP HDg.out.wd m)
    have h3:=Int.mul_le_mul_of_nonneg_right (show(1:Int)≤pw^m from ji m) (dw (kU HDg.out.wd m))
    omega
   have hp0:=dw (kU HDg.out.wd (m+1))
   have hs1:s1=1:=by
    have h1:0<n:=by
     rw[←HV.out]
     exact GH HDg.out.wd HC0.out (by intro e;rw[e]at HL;have:=HL.out;simp at this;omega)
    have:=HS.out
    omega
   obtain⟨a0,a1'⟩:=aI HDg.out.wd m
   have cA:=(hbi.out.cell (p:=⟨b,off+m,none⟩) hb).trans (hrow m (by rw[HL.out];omega))
   have hbx:=HA4.out.a.below hbi.out
   have cX:=hbx.cell
   have HZ:=h_ hz
   rw[show pw=1000000000 from rfl]at hz
   subst hs1
   generalize gd zs m=z at*
   generalize nv (zs.drop (m+1))=acc at*
   obtain⟨acc',HZ3⟩: ∃a,Hid (nv (zs.drop m)=a):=⟨_,h_ rfl⟩
   rw[HZ3.out]at hz hle
   have r1:IntKind.i64.wrap (1000000000*acc)=1000000000*acc:=IntWalk.i64_in _ (by omega)
   have r2:IntKind.i64.wrap (1*z)=z:=by rw[Int.one_mul];exact IntWalk.i64_in _ (by omega)
   have r2':IntKind.i64.wrap z=z:=IntWalk.i64_in _ (by omega)
   have r3:IntKind.i64.wrap (1000000000*acc+z)=1000000000*acc+z:=IntWalk.i64_in _ (by omega)
   have HZ2:Hid (acc'=1000000000*acc+z):=h_ (by omega)
   clear hz hrow hb hbx hcA HZ
   go_wp2_with fail
   go_quiet (fail)
   go_wp2_with fail
   go_roundw
   case rel=>exact⟨m,by omega,by rw[HZ3.out,HZ2.out],by go_num,h_ (hbi.out.trans ((aY.step wr nq).below _))⟩
   case measure=>simp[intOf]<;>omega
end Go.Proofs.YtnapiakfbihnjaaGreatDoor.R
namespace Go.Proofs.YtnapiakfbihnjaaGreatDoor.R
open Go.RowKit Go.Shelf
def ge2(n d L:Int):Prop:=d*2^L.toNat≤n*2^(-L).toNat
theorem Zw{n d N D L:Int}(hd:0<d)(hD:0<D)(h:n*D=N*d):ge2 n d L↔ge2 N D L:=by
 unfold ge2
 generalize (2:Int)^L.toNat=a
 generalize (2:Int)^(-L).toNat=b
 have e1:d*a*D=D*a*d:=by grind
 have e2:n*b*D=N*b*d:=by grind
 constructor
 ·intro h1
  have:=Int.mul_le_mul_of_nonneg_right h1 (Int.le_of_lt hD)
  rw[e1,e2]at this
  exact Int.le_of_mul_le_mul_right this hd
 ·intro h1
  have:=Int.mul_le_mul_of_nonneg_right h1 (Int.le_of_lt hd)
  rw[←e1,←e2]at this
  exact Int.le_of_mul_le_mul_right this hD
theorem ao4{n d:Int}{x y:Nat}(n1:2^(x-1)≤n)(x1:1≤x)(d0:0<d)(d1:d<2^y):ge2 n d ((x:Int)-y-1):=by
 unfold ge2
 by_cases h:1≤(x:Int)-y
 ·rw[show(-((x:Int)-y-1)).toNat=0 by omega,Int.pow_zero,Int.mul_one]
  have h1:=Int.mul_le_mul_of_nonneg_right (Int.le_of_lt d1) (Int.le_of_lt (au ((x:Int)-y-1).toNat))
  rw[←Int.pow_add,show y+((x:Int)-y-1).toNat=x-1 by omega]at h1
  omega
 ·rw[show((x:Int)-y-1).toNat=0 by omega,Int.pow_zero,Int.mul_one]
  have h1:=Int.mul_le_mul_of_nonneg_right n1 (Int.le_of_lt (au (-((x:Int)-y-1)).toNat))
  rw[←Int.pow_add,show x-1+(-((x:Int)-y-1)).toNat=y by omega]at h1
  omega
theorem aii{n d:Int}{x y:Nat}(n0:0<n)(n1:n<2^x)(y1:1≤y)(d1:2^(y-1)≤d): ¬ge2 n d ((x:Int)-y+1):=by
 unfold ge2
 by_cases h:0≤(x:Int)-y+1
 ·rw[show(-((x:Int)-y+1)).toNat=0 by omega,Int.pow_zero,Int.mul_one]
  have h1:=Int.mul_le_mul_of_nonneg_right d1 (Int.le_of_lt (au ((x:Int)-y+1).toNat))
  rw[←Int.pow_add,show y-1+((x:Int)-y+1).toNat=x by omega]at h1
  omega
 ·rw[show((x:Int)-y+1).toNat=0 by omega,Int.pow_zero,Int.mul_one]
  have h1:=Int.mul_lt_mul_of_pos_right n1 (au (-((x:Int)-y+1)).toNat)
  rw[←Int.pow_add,show x+(-((x:Int)-y+1)).toNat=y-1 by omega]at h1
  omega
end Go.Proofs.YtnapiakfbihnjaaGreatDoor.R
namespace Go.Proofs.YtnapiakfbihnjaaGreatDoor.R
open Go.RowKit Go.Shelf Tryz
theorem bK.to{w:World}{K D K' D':Int}(h0:0<D')(he:K*D'=K'*D)(e:Ending)(w':World)(h:bK w K D e w'):bK w K' D' e w':=by
 obtain⟨v,rfl,hv,hb⟩:=h
 exact⟨v,rfl,hv.cross h0 he,hb⟩
def inI(x:Int):Prop:=(x.natAbs:Int)<pw^980
theorem inI.r{x:Int}(h:inI x):inR x 1:=⟨h,Int.lt_of_lt_of_le (show(1:Int)<pw^1 by decide) (bT (by omega))⟩
theorem jI{x:Int}(h:(x.natAbs:Int)<1000000000000000000000000000000000000000000000000000000000000):inI x:=by
 have h3:(1000000000000000000000000000000000000000000000000000000000000:Int)<pw^9:=by decide
 have h4:pw^9≤pw^980:=bT (by omega)
 show(x.natAbs:Int)<_
 omega
theorem aic(w:World)(va vb:Value)(x y:Int)(h1:Rq w va x 1)(h2:Rq w vb y 1)(i1:inI x)(i2:inI y):Calls prog 62 #[va,vb] w (bK w (x+y) 1):=
 (Vg w va vb x 1 y 1 h1 h2 i1.r i2.r).mono (bK.to (by decide) (by omega))
theorem atx(w:World)(va vb:Value)(x y:Int)(h1:Rq w va x 1)(h2:Rq w vb y 1)(i1:inI x)(i2:inI y):Calls prog 44 #[va,vb] w (bK w (x-y) 1):=
 (ah8 w va vb x 1 y 1 h1 h2 i1.r i2.r).mono (bK.to (by decide) (by omega))
theorem awq(w:World)(va vb:Value)(x y:Int)(h1:Rq w va x 1)(h2:Rq w vb y 1)(i1:inI x)(i2:inI y):Calls prog 60 #[va,vb] w fun e w'=>e=.returned (.int .i64 (bW x y))∧Below w.heap.size w w':=by
 have:=JP w va vb x 1 y 1 h1 h2 i1.r i2.r
 rwa [Int.mul_one,Int.mul_one]at this
theorem aid(w:World)(v:Value)(x:Int)(k:Nat)(h:Rq w v x 1)(i:inI x)(hk:k≤28000):Calls prog 79 #[v,.int .i64 k] w (bK w (x*2^k) 1):=
 (EX w v x 1 k h i.r (by omega) (by omega)).mono (bK.to (by decide) (by
  rw[show((k:Nat):Int).toNat=k by omega,show(-((k:Nat):Int)).toNat=0 by omega,Int.pow_zero];simp only[Int.mul_one]))
theorem atA(w:World)(v:Value)(x:Int)(k:Nat)(j:Int)(hj:j= -(k:Int))(h:Rq w v x 1)(i:inI x)(hk:k≤28000):Calls prog 79 #[v,.int .i64 j] w (bK w x (2^k)):=by
 subst hj
 exact(EX w v x 1 (-(k:Int)) h i.r (by omega) (by omega)).mono (bK.to (au k) (by
  rw[show(-(k:Int)).toNat=0 by omega,show(- -(k:Int)).toNat=k by omega,Int.pow_zero,Int.mul_one,Int.one_mul]))
theorem afh(w:World)(v:Value)(x:Int)(k:Nat)(h:Rq w v x (2^k))(i:inI x)(hk:k≤28000):Calls prog 98 #[v] w (bK w (x/2^k) 1):=
 abJ w v x (2^k) h ⟨i,Me hk⟩
theorem atB(w:World)(v:Value)(x:Int)(h:Rq w v x 1)(x0:0≤x)(x1:x<4294967296):Calls prog 147 #[v] w fun e w'=>e=.returned (.tuple #[.int .i64 x,.int .i64 0])∧Below w.heap.size w w':=by
 obtain⟨_,s,n,d,h1,h2⟩:=h
 obtain⟨a1,l1,c1,a2,l2,c2,rfl,-,-⟩:=h1.ql
 exact Bi w s a1 a2 l1 c1 l2 c2 x n d h1 h2 x0 x1
theorem Gx(w:World)(v:Value)(x:Int)(h:Rq w v x 1)(x0:0≤x)(x1:x<4294967296):Calls prog 76 #[v] w fun e w'=>e=.returned (.int .u64 x)∧Below w.heap.size w w':=by
 obtain⟨s1,a1,l1,c1,a2,l2,c2,rfl⟩:=h.shape
 have hb:=(Below.refl w.heap.size w).alloc (Nat.le_refl _) (.cells #[.int .i64 s1,.slice a1 l1 c1,.slice a2 l2 c2] 61)
 have HI:=h_ (atB _ _ x (h.below hb) x0 x1)
 have HX:=h_ hb
 have hw:IntKind.u64.wrap x=x:=IntWalk.u64_in _ (by omega)
 clear h hb
 go_enter func76,ntmps76
 go_wp2_with fail
 refine HI.out.mono ?_
 rintro e w1 ⟨rfl,hb1⟩
 have HB:=h_ (HX.out.trans (hb1.mono HX.out.size))
 clear hb1
 go_wp2_with fail
 go_ret
 exact⟨rfl,HB.out⟩
theorem G6(w:World)(n:Int)(n0:0≤n)(n1:n<18446744073709551616):Calls prog 115 #[.int .u64 n] w (bK w n 1):=by
 have hX:=(Below.refl w.heap.size w).alloc (Nat.le_refl _) (.cells dA 61)
 have hB:=Box.new w dA 61
 have HX:=h_ hX
 have HB:=h_ hB
 clear hX hB
 have q1:Int.tmod n 4294967296=n%4294967296:=Int.tmod_eq_emod_of_nonneg n0
 have q2:IntKind.u64.wrap (n%4294967296)=n%4294967296:=IntWalk.u64_in _ (by omega)
 have q3:IntKind.i64.wrap (n%4294967296)=n%4294967296:=IntWalk.i64_in _ (by omega)
 have q4:IntKind.i64.wrap (n/4294967296)=n/4294967296:=IntWalk.i64_in _ (by omega)
 have q5:IntKind.u64.wrap (n/4294967296)=n/4294967296:=IntWalk.u64_in _ (by omega)
 go_enter func115,ntmps115
 go_wp2_with fail
 refine(Ac _ (n/4294967296) (by omega) (by omega)).mono ?_
 rintro e w1 ⟨v1,rfl,hv,hb⟩
 have HS:=h_ (aid w1 v1 _ 32 hv (jI (by omega)) (by decide))
 obtain⟨s1,o1,l1,c1,p1,m1,k1,rfl⟩:=hv.shape
 have B1:=h_ hb
 clear hv hb
 go_wp2_with fail
 refine HS.out.mono ?_
 rintro e w2 ⟨v2,rfl,hv,hb⟩
 obtain⟨s2,o2,l2,c2,p2,m2,k2,rfl⟩:=hv.shape
 have V2:=h_ hv
 have B2:=h_ (B1.out.trans (hb.mono B1.out.size))
 clear hv hb HS
 go_wp2_with fail
 refine(Ac _ (n%4294967296) (by omega) (by omega)).mono ?_
 rintro e w3 ⟨v3,rfl,hv,hb⟩
 have HS:=h_ (aic w3 _ v3 _ _ (V2.out.below hb) hv (jI (by have:(2:Int)^32=4294967296:=(by decide);omega)) (jI (by omega)))
 obtain⟨s3,o3,l3,c3,p3,m3,k3,rfl⟩:=hv.shape
 have B3:=h_ (B2.out.trans (hb.mono B2.out.size))
 clear hv hb
 go_wp2_with fail
 refine HS.out.mono ?_
 rintro e w4 ⟨v4,rfl,hv,hb⟩
 obtain⟨s4,o4,l4,c4,p4,m4,k4,rfl⟩:=hv.shape
 have B4:=h_ (B3.out.trans (hb.mono B3.out.size))
 have V4:=h_ hv
 have hC:=HB.out.below B4.out
 have HC:=h_ hC
 have cC:=hC.cell
 have fC:=hC.free
 have lC:=hC.lt
 clear hv hb hC HS
 go_wp2_with fail
 refine bodyPost_ret (v:=.agg #[.int .i64 s4,.slice o4 l4 c4,.slice p4 m4 k4]) (by simp[results,results115,go_sem,cC,lC]) rfl ?_
 have ho:=dI w.heap.size w4 (.int .i64 s4) (.slice o4 l4 c4) (.slice p4 m4 k4)
 have hV:=V4.out.only HC.out ho
 rw[show n/4294967296*2^32+n%4294967296=n by have:(2:Int)^32=4294967296:=(by decide);omega]at hV
 have hZ:=HX.out.trans (B4.out.mono HX.out.size)
 exact⟨_,rfl,hV,hZ.trans (ho.below hZ.size (Nat.le_refl _))⟩
end Go.Proofs.YtnapiakfbihnjaaGreatDoor.R
namespace Go.Proofs.YtnapiakfbihnjaaGreatDoor.R
open Go.RowKit Go.Shelf
theorem aij{n d L:Int}(d0:0<d)(n0:0≤n)(h:ge2 n d (L+1)):ge2 n d L:=by
 unfold ge2 at*
 by_cases hL:0≤L
 ·rw[show(-L).toNat=0 by omega]
  rw[show(-(L+1)).toNat=0 by omega,show(L+1).toNat=L.toNat+1 by omega,Int.pow_succ]at h
  have:=Int.mul_pos d0 (au L.toNat)
  rw[←Int.mul_assoc]at h
  omega
 ·rw[show L.toNat=0 by omega]
  rw[show(L+1).toNat=0 by omega]at h
  rw[show(-L).toNat=(-(L+1)).toNat+1 by omega,Int.pow_succ,←Int.mul_assoc]
  have:=Int.mul_nonneg n0 (Int.le_of_lt (au (-(L+1)).toNat))
  omega
theorem Vk{n d:Int}(d0:0<d)(n0:0≤n)(j:Nat): ∀{L:Int},ge2 n d (L+j)→ge2 n d L:=by
 induction j with
 |zero=>intro L h;rwa [show L+((0:Nat):Int)=L by omega]at h
 |succ j ih=>intro L h;exact ih (aij d0 n0 (by rwa [show L+((j+1:Nat):Int)=L+j+1 by omega]at h))
theorem aik{n d L M:Int}(n0:0≤n)(d0:0<d)(h1:ge2 n d L)(h2: ¬ge2 n d (L+1))(h3:ge2 n d M)(h4: ¬ge2 n d (M+1)):L=M:=by
 rcases Int.lt_trichotomy L M with h|h|h
 ·exact absurd (Vk d0 n0 (M-(L+1)).toNat (by rwa [show L+1+((M-(L+1)).toNat:Int)=M by omega])) h2
 ·exact h
 ·exact absurd (Vk d0 n0 (L-(M+1)).toNat (by rwa [show M+1+((L-(M+1)).toNat:Int)=L by omega])) h4
end Go.Proofs.YtnapiakfbihnjaaGreatDoor.R
namespace Go.Proofs.YtnapiakfbihnjaaGreatDoor.R
open Go.RowKit Go.Shelf Tryz
structure Zu(w W:World)(g:Nat)(A:Array Value)(c:Nat):Prop where
 bel:Below w.heap.size w W
 a:Box W g A
 c:Box W c dA
theorem Zu.next{w W W':World}{g c:Nat}{A:Array Value}(h:Zu w W g A c)(hb:Below W.heap.size W W'):Zu w W' g A c:=
 ⟨h.bel.trans (hb.mono h.bel.size),h.a.below hb,h.c.below hb⟩
theorem aie(w:World)(hi lo:Int)(h0:0≤hi)(h1:hi<18446744073709551616)(l0:0≤lo)(l1:lo<18446744073709551616):
 Calls prog 59 #[.agg #[.int .u64 hi,.int .u64 lo]] w (bK w (hi*18446744073709551616+lo) 1):=by
 have e64:(2:Int)^64=18446744073709551616:=by decide
 have K1:Hid (∀W,Below w.heap.size w W→Calls prog 115 #[.int .u64 hi] W (bK W hi 1)):=h_ fun W _=>G6 W hi h0 h1
 have K3:Hid (∀W,Below w.heap.size w W→Calls prog 115 #[.int .u64 lo] W (bK W lo 1)):=h_ fun W _=>G6 W lo l0 l1
 have K2:Hid (∀W v,Below w.heap.size w W→Rq W v hi 1→Calls prog 79 #[v,.int .i64 64] W (bK W (hi*18446744073709551616) 1)):=h_ fun W v _ hv=>by
  have:=aid W v hi 64 hv (jI (by omega)) (by decide)
  rwa [e64]at this
 have K4:Hid (∀W va vb,Below w.heap.size w W→Rq W va (hi*18446744073709551616) 1→Rq W vb lo 1→Calls prog 62 #[va,vb] W (bK W (hi*18446744073709551616+lo) 1)):=h_ fun W va vb _ q1 q2=>aic W va vb _ _ q1 q2 (jI (by omega)) (jI (by omega))
 clear h0 h1 l0 l1 e64
 go_enter func59,ntmps59
 go_wp2_with fail
 obtain⟨hA,hB,hW0⟩:=Du w #[.int .u64 hi,.int .u64 lo] dA 26 61
 obtain⟨g,hg⟩: ∃g,w.heap.size=g:=⟨_,rfl⟩
 have HT0:vH w _ w.heap.size _ _:=⟨hW0,hA,hB⟩
 rw[hg]at HT0
 have HG:=h_ hg
 rw[hg]at⊢
 clear hA hB hW0 hg
 generalize (w.alloc (.cells #[.int .u64 hi,.int .u64 lo] 26)).alloc (.cells dA 61)=W0 at HT0⊢
 have hst: ∀(U1 U2:World),Hid (vH w U1 g #[.int .u64 hi,.int .u64 lo] dA)→Below U1.heap.size U1 U2→Hid (vH w U2 g #[.int .u64 hi,.int .u64 lo] dA)∧U2.cell? ⟨g,0,none⟩=some (.int .u64 hi)∧U2.cell? ⟨g,1,none⟩=some (.int .u64 lo):=fun U1 U2 h hb=>
  have h2:=h.out.next hb
  ⟨h_ h2,h2.a.cell 0,h2.a.cell 1⟩
 have HSt:=h_ hst
 clear hst
 have HT:=h_ HT0
 have hc0:=HT0.a.cell
 clear HT0
 obtain⟨HA0,iC,iD⟩:=HSt.out _ _ HT (bz W0)
 go_region_held3 (fun w'=>w'.cell? ⟨g,0,none⟩=some (.int .u64 hi)∧w'.cell? ⟨g,1,none⟩=some (.int .u64 lo)) (first|exact⟨jD,jE⟩|exact⟨jF,jG⟩|exact⟨iE,iF⟩|exact⟨iG,iH⟩|exact⟨iC,iD⟩|(simp[go_sem, *];done)|go_keep)
  (first
   |(go_at_call 115;(with_reducible refine(K1.out _ HA0.out.bel).mono ?_);rintro en GV ⟨zA1,rfl,hv,hb⟩;obtain⟨sA1,oA1,lA1,cA1,qA1,mA1,kA1,rfl⟩:=hv.shape;obtain⟨HA1,iG,iH⟩:=HSt.out _ _ HA0 hb;have VA1:=h_ hv;clear hv hb)
   |(go_at_call 79;(with_reducible refine(K2.out _ _ HA1.out.bel VA1.out).mono ?_);rintro en BL ⟨P7,rfl,hv,hb⟩;obtain⟨sA2,Jb,lA2,Jc,qA2,mA2,kA2,rfl⟩:=hv.shape;obtain⟨HA2,iE,iF⟩:=HSt.out _ _ HA1 hb;have VA2:=h_ hv;have iO:=h_ (VA1.out.below hb);clear hv hb)
   |(go_at_call 115;(with_reducible refine(K3.out _ HA2.out.bel).mono ?_);rintro en sH ⟨L8,rfl,hv,hb⟩;obtain⟨sA3,L9,lA3,Mc,qA3,mA3,kA3,rfl⟩:=hv.shape;obtain⟨mG,jF,jG⟩:=HSt.out _ _ HA2 hb;have nV:=h_ hv;have kE:=h_ (iO.out.below hb);have kV:=h_ (VA2.out.below hb);clear hv hb)
   |(go_at_call 62;(with_reducible refine(K4.out _ _ _ mG.out.bel kV.out nV.out).mono ?_);rintro en wA4 ⟨Zo,rfl,hv,hb⟩;obtain⟨sA4,BM,BN,BO,GY,GZ,G5,rfl⟩:=hv.shape;obtain⟨HA4,jD,jE⟩:=HSt.out _ _ mG hb;have Aa:=h_ hv;have jM:=h_ (kE.out.below hb);have lQ:=h_ (kV.out.below hb);have kG:=h_ (nV.out.below hb);have cC:=HA4.out.c.cell;have fC:=HA4.out.c.free;have lC:=HA4.out.c.lt;clear hv hb))
 clear iC iD iG iH iE iF jF jG jD jE
 have xm:=jM
 have EW:=lQ
 have BP:=kG
 go_wp2_with fail
 refine bodyPost_ret (v:=.agg #[.int .i64 sA4,.slice BM BN BO,.slice GY GZ G5]) (by simp[results,results59,go_sem,cC,lC]) rfl ?_
 have ho:=dI (g+1) wA4 (.int .i64 sA4) (.slice BM BN BO) (.slice GY GZ G5)
 exact⟨_,rfl,Aa.out.only HA4.out.c ho,HA4.out.bel.trans (ho.below HA4.out.bel.size (by have:=HG.out;omega))⟩
theorem aih(w:World)(v:Value)(n:Int)(from_ bits:Nat)(h:Rq w v n 1)(n0:0≤n)(n1:n<1000000000000000000000000000000000000000000000)(hf:from_≤200)(hb:bits≤200):
 Calls prog 75 #[v,.int .i64 from_,.int .i64 bits] w (bK w (n/2^from_%2^bits) 1):=by
 obtain⟨s1,a1,l1,c1,a2,l2,c2,rfl⟩:=h.shape
 obtain⟨hA,hB,hW0⟩:=oG w #[.int .i64 s1,.slice a1 l1 c1,.slice a2 l2 c2] dA 61
 have hin:inI n:=jI (by omega)
 obtain⟨q,hq⟩: ∃q,n/2^from_=q:=⟨_,rfl⟩
 have q0:0≤q:=by rw[←hq];exact Int.ediv_nonneg n0 (Int.le_of_lt (au _))
 have q1:q≤n:=by rw[←hq];exact Int.ediv_le_self _ n0
 obtain⟨r,hr⟩: ∃r,q/2^bits=r:=⟨_,rfl⟩
 have r0:0≤r:=by rw[←hr];exact Int.ediv_nonneg q0 (Int.le_of_lt (au _))
 have r1:r*2^bits≤q:=by rw[←hr];exact Int.ediv_mul_le _ (EH _)
 have r3:0≤r*2^bits:=Int.mul_nonneg r0 (Int.le_of_lt (au _))
 have r2:r≤q:=by rw[←hr];exact Int.ediv_le_self _ q0
 have K1:=h_ (atA _ _ n from_ (-(from_:Int)) rfl (h.below hW0) hin (by omega))
 have K2:Hid (∀W v,Rq W v n (2^from_)→Calls prog 98 #[v] W (bK W q 1)):=h_ fun W v hv=>by
  have:=afh W v n from_ hv hin (by omega)
  rwa [hq]at this
 have K3:Hid (∀W v,Below w.heap.size w W→Rq W v q 1→Calls prog 79 #[v,.int .i64 (-(bits:Int))] W (bK W q (2^bits))):=h_ fun W v _ hv=>atA W v q bits _ rfl hv (jI (by omega)) (by omega)
 have K4:Hid (∀W v,Below w.heap.size w W→Rq W v q (2^bits)→Calls prog 98 #[v] W (bK W r 1)):=h_ fun W v _ hv=>by
  have:=afh W v q bits hv (jI (by omega)) (by omega)
  rwa [hr]at this
 have K5:Hid (∀W v,Below w.heap.size w W→Rq W v r 1→Calls prog 79 #[v,.int .i64 bits] W (bK W (r*2^bits) 1)):=h_ fun W v _ hv=>aid W v r bits hv (jI (by omega)) (by omega)
 have K6:Hid (∀W va vb,Below w.heap.size w W→Rq W va q 1→Rq W vb (r*2^bits) 1→Calls prog 44 #[va,vb] W (bK W (q%2^bits) 1)):=h_ fun W va vb _ q1' q2'=>by
  have:=atx W va vb _ _ q1' q2' (jI (by omega)) (jI (by omega))
  have e:=Int.mul_ediv_add_emod q (2^bits)
  rw[hr]at e
  rwa [show q-r*2^bits=q%2^bits by rw[Int.mul_comm r];omega]at this
 have w1:IntKind.i64.wrap (-(from_:Int))= -(from_:Int):=IntWalk.i64_in _ (by omega)
 have w2:IntKind.i64.wrap (-(bits:Int))= -(bits:Int):=IntWalk.i64_in _ (by omega)
 have HBx:=h_ (And.intro hW0 hB)
 rw[hq]
 clear h hA hB hW0 hin hq hr r0 r1 r2 r3 q0 q1 n0 n1
 go_enter func75,ntmps75
 go_wp2_with fail
 refine K1.out.mono ?_
 rintro e W1 ⟨v1,rfl,hv,hb⟩
 have K2':=h_ (K2.out W1 v1 hv)
 obtain⟨s4,o4,l4,c4,p4,m4,k4,rfl⟩:=hv.shape
 have B1:=h_ (HBx.out.1.trans (hb.mono HBx.out.1.size))
 have Z1:=h_ (HBx.out.2.below hb)
 clear hv hb K1 K2
 go_wp2_with fail
 refine K2'.out.mono ?_
 rintro e W2 ⟨v2,rfl,hv,hb⟩
 obtain⟨s7,o7,l7,c7,p7,m7,k7,rfl⟩:=hv.shape
 have B2:=h_ (B1.out.trans (hb.mono B1.out.size))
 have Z2:=h_ (Z1.out.below hb)
 have V2:=h_ hv
 clear hv hb K2'
 go_wp2_with fail
 have hX7:=(Below.refl W2.heap.size W2).alloc (Nat.le_refl _) (.cells #[.int .i64 s7,.slice o7 l7 c7,.slice p7 m7 k7] 61)
 have H7:Hid (Zu w _ W2.heap.size #[.int .i64 s7,.slice o7 l7 c7,.slice p7 m7 k7] (w.heap.size+1)):=h_ ⟨B2.out.trans (hX7.mono B2.out.size),Box.new W2 #[.int .i64 s7,.slice o7 l7 c7,.slice p7 m7 k7] 61,Z2.out.below hX7⟩
 have VQ7:=h_ (V2.out.below hX7)
 have atC:w.heap.size+1<W2.heap.size:=Z2.out.lt
 clear hX7 B1 Z1 B2 Z2 V2 HBx
 obtain⟨g,hg⟩: ∃g,w.heap.size=g:=⟨_,rfl⟩
 have HG:=h_ hg
 rw[hg]at H7 atC⊢
 clear hg
 generalize W2.alloc (.cells #[.int .i64 s7,.slice o7 l7 c7,.slice p7 m7 k7] 61)=W7 at H7 VQ7⊢
 obtain⟨g7,hg7⟩: ∃g,W2.heap.size=g:=⟨_,rfl⟩
 rw[hg7]at H7 atC⊢
 clear hg7
 have hne1: ¬g7=g+1:=by omega
 have hne2: ¬g+1=g7:=by omega
 have hst: ∀(U1 U2:World),Hid (Zu w U1 g7 #[.int .i64 s7,.slice o7 l7 c7,.slice p7 m7 k7] (g+1))→Below U1.heap.size U1 U2→Hid (Zu w U2 g7 #[.int .i64 s7,.slice o7 l7 c7,.slice p7 m7 k7] (g+1))∧U2.cell? ⟨g7,0,none⟩=some (.int .i64 s7)∧U2.cell? ⟨g7,1,none⟩=some (.slice o7 l7 c7)∧U2.cell? ⟨g7,2,none⟩=some (.slice p7 m7 k7):=fun U1 U2 h hb=>
  have h2:=h.out.next hb
  ⟨h_ h2,h2.a.cell 0,h2.a.cell 1,h2.a.cell 2⟩
 have HSt:=h_ hst
 clear hst
 have hc0:=H7.out.a.cell
 obtain⟨HA0,iC,iD,jf⟩:=HSt.out _ _ H7 (bz W7)
 have alv:=h_ (VQ7.out.below (bz W7))
 go_region_held3 (fun w'=>w'.cell? ⟨g7,0,none⟩=some (.int .i64 s7)∧w'.cell? ⟨g7,1,none⟩=some (.slice o7 l7 c7)∧w'.cell? ⟨g7,2,none⟩=some (.slice p7 m7 k7)) (first|exact⟨jD,jE,kS⟩|exact⟨jF,jG,kT⟩|exact⟨iE,iF,jg⟩|exact⟨iG,iH,jh⟩|exact⟨iC,iD,jf⟩|(simp[go_sem, *];done)|go_keep)
  (first
   |(go_at_call 79;(with_reducible refine(K3.out _ _ HA0.out.bel alv.out).mono ?_);rintro en GV ⟨zA1,rfl,hv,hb⟩;obtain⟨sA1,oA1,lA1,cA1,qA1,mA1,kA1,rfl⟩:=hv.shape;obtain⟨HA1,iG,iH,jh⟩:=HSt.out _ _ HA0 hb;have VA1:=h_ hv;have aoP:=h_ (alv.out.below hb);clear hv hb)
   |(go_at_call 98;(with_reducible refine(K4.out _ _ HA1.out.bel VA1.out).mono ?_);rintro en BL ⟨P7,rfl,hv,hb⟩;obtain⟨sA2,Jb,lA2,Jc,qA2,mA2,kA2,rfl⟩:=hv.shape;obtain⟨HA2,iE,iF,jg⟩:=HSt.out _ _ HA1 hb;have VA2:=h_ hv;have aoQ:=h_ (aoP.out.below hb);have iO:=h_ (VA1.out.below hb);clear hv hb)
   |(go_at_call 79;(with_reducible refine(K5.out _ _ HA2.out.bel VA2.out).mono ?_);rintro en sH ⟨L8,rfl,hv,hb⟩;obtain⟨sA3,L9,lA3,Mc,qA3,mA3,kA3,rfl⟩:=hv.shape;obtain⟨mG,jF,jG,kT⟩:=HSt.out _ _ HA2 hb;have nV:=h_ hv;have Zv:=h_ (aoQ.out.below hb);have kE:=h_ (iO.out.below hb);have kV:=h_ (VA2.out.below hb);clear hv hb)
   |(go_at_call 44;(with_reducible refine(K6.out _ _ _ mG.out.bel Zv.out nV.out).mono ?_);rintro en wA4 ⟨Zo,rfl,hv,hb⟩;obtain⟨sA4,BM,BN,BO,GY,GZ,G5,rfl⟩:=hv.shape;obtain⟨HA4,jD,jE,kS⟩:=HSt.out _ _ mG hb;have Aa:=h_ hv;have aoR:=h_ (Zv.out.below hb);have jM:=h_ (kE.out.below hb);have lQ:=h_ (kV.out.below hb);have kG:=h_ (nV.out.below hb);have cC:=HA4.out.c.cell;have fC:=HA4.out.c.free;have lC:=HA4.out.c.lt;clear hv hb))
 clear iC iD jf iG iH jh iE iF jg jF jG kT jD jE kS
 have aAD:=aoR
 have xm:=jM
 have EW:=lQ
 have BP:=kG
 go_wp2_with fail
 refine bodyPost_ret (v:=.agg #[.int .i64 sA4,.slice BM BN BO,.slice GY GZ G5]) (by simp[results,results75,go_sem,cC,lC]) rfl ?_
 have ho:=dI (g+1) wA4 (.int .i64 sA4) (.slice BM BN BO) (.slice GY GZ G5)
 exact⟨_,rfl,Aa.out.only HA4.out.c ho,HA4.out.bel.trans (ho.below HA4.out.bel.size (by have:=HG.out;omega))⟩
abbrev Ad:Array Value:= #[.int .u64 0,.int .u64 0]
theorem abK(w:World)(s1:Int)(a1 a2:Option Addr)(l1 c1 l2 c2:Nat)(x96 x64 x32 x0:Int)(b1:0≤x96∧x96<4294967296)(b2:0≤x64∧x64<4294967296)(b3:0≤x32∧x32<4294967296)(b4:0≤x0∧x0<4294967296)
 (ay5:Hid (∀W,Below w.heap.size w W→Calls prog 75 #[.agg #[.int .i64 s1,.slice a1 l1 c1,.slice a2 l2 c2],.int .i64 96,.int .i64 32] W (bK W x96 1)))
 (ay8:Hid (∀W v,Below w.heap.size w W→Rq W v x96 1→Calls prog 76 #[v] W fun e w'=>e=.returned (.int .u64 x96)∧Below W.heap.size W w'))
 (ay9:Hid (∀W,Below w.heap.size w W→Calls prog 75 #[.agg #[.int .i64 s1,.slice a1 l1 c1,.slice a2 l2 c2],.int .i64 64,.int .i64 32] W (bK W x64 1)))
 (azb:Hid (∀W v,Below w.heap.size w W→Rq W v x64 1→Calls prog 76 #[v] W fun e w'=>e=.returned (.int .u64 x64)∧Below W.heap.size W w'))
 (azc:Hid (∀W,Below w.heap.size w W→Calls prog 75 #[.agg #[.int .i64 s1,.slice a1 l1 c1,.slice a2 l2 c2],.int .i64 32,.int .i64 32] W (bK W x32 1)))
 (aze:Hid (∀W v,Below w.heap.size w W→Rq W v x32 1→Calls prog 76 #[v] W fun e w'=>e=.returned (.int .u64 x32)∧Below W.heap.size W w'))
 (KP0:Hid (∀W,Below w.heap.size w W→Calls prog 75 #[.agg #[.int .i64 s1,.slice a1 l1 c1,.slice a2 l2 c2],.int .i64 0,.int .i64 32] W (bK W x0 1)))
 (KS0:Hid (∀W v,Below w.heap.size w W→Rq W v x0 1→Calls prog 76 #[v] W fun e w'=>e=.returned (.int .u64 x0)∧Below W.heap.size W w'))
 :Calls prog 61 #[.agg #[.int .i64 s1,.slice a1 l1 c1,.slice a2 l2 c2]] w fun e w'=>e=.returned (.agg #[.int .u64 (x96*4294967296+x64),.int .u64 (x32*4294967296+x0)])∧Below w.heap.size w w':=by
 have f1:IntKind.u64.wrap (x96*4294967296)=x96*4294967296:=IntWalk.u64_in _ (by omega)
 have f2:IntKind.u64.wrap (x32*4294967296)=x32*4294967296:=IntWalk.u64_in _ (by omega)
 have f3:IntKind.u64.wrap (x96*4294967296+x64)=x96*4294967296+x64:=IntWalk.u64_in _ (by omega)
 have f4:IntKind.u64.wrap (x32*4294967296+x0)=x32*4294967296+x0:=IntWalk.u64_in _ (by omega)
 clear b1 b2 b3 b4
 go_enter func61,ntmps61
 go_wp2_with fail
 obtain⟨hA,hB,hW0⟩:=Du w #[.int .i64 s1,.slice a1 l1 c1,.slice a2 l2 c2] Ad 61 26
 obtain⟨g,hg⟩: ∃g,w.heap.size=g:=⟨_,rfl⟩
 have HT0:vH w _ w.heap.size _ _:=⟨hW0,hA,hB⟩
 rw[hg]at HT0
 have HG:=h_ hg
 rw[hg]at⊢
 clear hA hB hW0 hg
 generalize (w.alloc (.cells #[.int .i64 s1,.slice a1 l1 c1,.slice a2 l2 c2] 61)).alloc (.cells Ad 26)=W0 at HT0⊢
 have hst: ∀(U1 U2:World),Hid (vH w U1 g #[.int .i64 s1,.slice a1 l1 c1,.slice a2 l2 c2] Ad)→Below U1.heap.size U1 U2→Hid (vH w U2 g #[.int .i64 s1,.slice a1 l1 c1,.slice a2 l2 c2] Ad)∧U2.cell? ⟨g,0,none⟩=some (.int .i64 s1)∧U2.cell? ⟨g,1,none⟩=some (.slice a1 l1 c1)∧U2.cell? ⟨g,2,none⟩=some (.slice a2 l2 c2):=fun U1 U2 h hb=>
  have h2:=h.out.next hb
  ⟨h_ h2,h2.a.cell 0,h2.a.cell 1,h2.a.cell 2⟩
 have HSt:=h_ hst
 clear hst
 have HT:=h_ HT0
 have hc0:=HT0.a.cell
 clear HT0
 obtain⟨HA0,iC,iD,jf⟩:=HSt.out _ _ HT (bz W0)
 go_region_held3 (fun w'=>w'.cell? ⟨g,0,none⟩=some (.int .i64 s1)∧w'.cell? ⟨g,1,none⟩=some (.slice a1 l1 c1)∧w'.cell? ⟨g,2,none⟩=some (.slice a2 l2 c2)) (first|exact⟨alx,aly,alz⟩|exact⟨alA,alC,alD⟩|exact⟨alE,alF,alG⟩|exact⟨BB,BC,BD⟩|exact⟨jD,jE,kS⟩|exact⟨jF,jG,kT⟩|exact⟨iE,iF,jg⟩|exact⟨iG,iH,jh⟩|exact⟨iC,iD,jf⟩|(simp[go_sem, *];done)|go_keep)
  (first
   |(go_at_call 75;(with_reducible refine(ay5.out _ HA0.out.bel).mono ?_);rintro en GV ⟨zA1,rfl,hv,hb⟩;obtain⟨sA1,oA1,lA1,cA1,qA1,mA1,kA1,rfl⟩:=hv.shape;obtain⟨HA1,iG,iH,jh⟩:=HSt.out _ _ HA0 hb;have VA1:=h_ hv;clear hv hb)
   |(go_at_call 76;(with_reducible refine(ay8.out _ _ HA1.out.bel VA1.out).mono ?_);rintro en BL ⟨rfl,hb⟩;obtain⟨HA2,iE,iF,jg⟩:=HSt.out _ _ HA1 hb;have iO:=h_ (VA1.out.below hb);clear hb)
   |(go_at_call 75;(with_reducible refine(ay9.out _ HA2.out.bel).mono ?_);rintro en sH ⟨L8,rfl,hv,hb⟩;obtain⟨sA3,L9,lA3,Mc,qA3,mA3,kA3,rfl⟩:=hv.shape;obtain⟨mG,jF,jG,kT⟩:=HSt.out _ _ HA2 hb;have nV:=h_ hv;have kE:=h_ (iO.out.below hb);clear hv hb)
   |(go_at_call 76;(with_reducible refine(azb.out _ _ mG.out.bel nV.out).mono ?_);rintro en wA4 ⟨rfl,hb⟩;obtain⟨HA4,jD,jE,kS⟩:=HSt.out _ _ mG hb;have jM:=h_ (kE.out.below hb);have kG:=h_ (nV.out.below hb);clear hb)
   |(go_at_call 75;(with_reducible refine(azc.out _ HA4.out.bel).mono ?_);rintro en wA5 ⟨zA5,rfl,hv,hb⟩;obtain⟨sA5,oA5,lA5,cA5,qA5,mA5,kA5,rfl⟩:=hv.shape;obtain⟨Bl,BB,BC,BD⟩:=HSt.out _ _ HA4 hb;have VA5:=h_ hv;have DD:=h_ (jM.out.below hb);have DF:=h_ (kG.out.below hb);clear hv hb)
   |(go_at_call 76;(with_reducible refine(aze.out _ _ Bl.out.bel VA5.out).mono ?_);rintro en wA6 ⟨rfl,hb⟩;obtain⟨HA6,alE,alF,alG⟩:=HSt.out _ _ Bl hb;have aoT:=h_ (DD.out.below hb);have aoU:=h_ (DF.out.below hb);have aoV:=h_ (VA5.out.below hb);clear hb)
   |(go_at_call 75;(with_reducible refine(KP0.out _ HA6.out.bel).mono ?_);rintro en wA7 ⟨zA7,rfl,hv,hb⟩;obtain⟨sA7,oA7,lA7,cA7,qA7,mA7,kA7,rfl⟩:=hv.shape;obtain⟨HA7,alA,alC,alD⟩:=HSt.out _ _ HA6 hb;have VA7:=h_ hv;have aoW:=h_ (aoT.out.below hb);have aoX:=h_ (aoU.out.below hb);have aoY:=h_ (aoV.out.below hb);clear hv hb)
   |(go_at_call 76;(with_reducible refine(KS0.out _ _ HA7.out.bel VA7.out).mono ?_);rintro en wA8 ⟨rfl,hb⟩;obtain⟨Vb,alx,aly,alz⟩:=HSt.out _ _ HA7 hb;have ao0:=h_ (aoW.out.below hb);have ao1:=h_ (aoX.out.below hb);have ao2:=h_ (aoY.out.below hb);have cC:=Vb.out.c.cell;have fC:=Vb.out.c.free;have lC:=Vb.out.c.lt;have ao3:=h_ (VA7.out.below hb);clear hb))
 clear iC iD jf iG iH jh iE iF jg jF jG kT jD jE kS BB BC BD alE alF alG alA alC alD alx aly alz
 have xm:=ao0
 have BP:=ao1
 have aAE:=ao2
 have aAF:=ao3
 go_wp2_with fail
 refine bodyPost_ret (v:=.agg #[.int .u64 (x96*4294967296+x64),.int .u64 (x32*4294967296+x0)]) (by simp[results,results61,go_sem,cC,lC]) rfl ?_
 have ho:=oH (g+1) wA8 (.int .u64 (x96*4294967296+x64)) (.int .u64 (x32*4294967296+x0))
 exact⟨rfl,Vb.out.bel.trans (ho.below Vb.out.bel.size (by have:=HG.out;omega))⟩
theorem abL(w:World)(v:Value)(n:Int)(h:Rq w v n 1)(n0:0≤n)(n1:n<340282366920938463463374607431768211456):
 Calls prog 61 #[v] w fun e w'=>e=.returned (.agg #[.int .u64 (n/18446744073709551616),.int .u64 (n%18446744073709551616)])∧Below w.heap.size w w':=by
 obtain⟨s1,a1,l1,c1,a2,l2,c2,rfl⟩:=h.shape
 have e32:(2:Int)^32=4294967296:=by decide
 have e64:(2:Int)^64=18446744073709551616:=by decide
 have e96:(2:Int)^96=79228162514264337593543950336:=by decide
 have e0:(2:Int)^0=1:=by decide
 have hp: ∀(b:Nat),b≤200→ ∀W,Below w.heap.size w W→Calls prog 75 #[.agg #[.int .i64 s1,.slice a1 l1 c1,.slice a2 l2 c2],.int .i64 b,.int .i64 32] W (bK W (n/2^b%4294967296) 1):=fun b hb W hW=>by
  have:=aih W _ n b 32 (h.below hW) n0 (by omega) hb (by decide)
  rwa [e32]at this
 have q0: ∀x:Int,0≤x%4294967296∧x%4294967296<4294967296:=fun x=>by omega
 have hs: ∀x:Int,∀W v,Below w.heap.size w W→Rq W v (x%4294967296) 1→Calls prog 76 #[v] W fun e w'=>e=.returned (.int .u64 (x%4294967296))∧Below W.heap.size W w':=fun x W v _ hv=>Gx W v _ hv (q0 x).1 (q0 x).2
 refine(abK w s1 a1 a2 l1 c1 l2 c2 (n/2^96%4294967296) (n/2^64%4294967296) (n/2^32%4294967296) (n/2^0%4294967296) (q0 _) (q0 _) (q0 _) (q0 _)
  (h_ (hp 96 (by decide))) (h_ (hs _)) (h_ (hp 64 (by decide))) (h_ (hs _)) (h_ (hp 32 (by decide))) (h_ (hs _)) (h_ (hp 0 (by decide))) (h_ (hs _))).mono ?_
 rintro e w' ⟨rfl,hb⟩
 refine⟨?_,hb⟩
 rw[e32,e64,e96,e0]
 rw[show n/79228162514264337593543950336%4294967296*4294967296+n/18446744073709551616%4294967296=n/18446744073709551616 by omega,show n/4294967296%4294967296*4294967296+n/1%4294967296=n%18446744073709551616 by omega]
def lL(k:Nat)(n:Int):Int:=if 2^k≤n then n-2^k else n+2^k
theorem I5{k:Nat}{n:Int}(hk:k≤127)(n0:0≤n)(n1:n<340282366920938463463374607431768211456):0≤lL k n∧lL k n<340282366920938463463374607431768211456:=by
 have h1:=rG hk
 have h2:=au k
 have h3:(2:Int)^127=170141183460469231731687303715884105728:=by decide
 unfold lL
 split<;>omega
def Vj(w:World)(n:Int)(e:Ending)(w':World):Prop:=e=.returned (.agg #[.int .u64 (n/18446744073709551616),.int .u64 (n%18446744073709551616)])∧Below w.heap.size w w'
theorem flip_any(w:World)(E P hi lo:Int)(k:Nat)(hk:E+P-1=k)(k1:k≤127)(e0:0≤E)(p0:0≤P)(h0:0≤hi)(h1:hi<18446744073709551616)(l0:0≤lo)(l1:lo<18446744073709551616):
 Calls prog 22 #[.agg #[.int .i64 E,.int .i64 P],.agg #[.int .u64 hi,.int .u64 lo]] w (Vj w (lL k (hi*18446744073709551616+lo))):=by
 obtain⟨n,hn⟩: ∃n,hi*18446744073709551616+lo=n:=⟨_,rfl⟩
 have n0:0≤n:=by omega
 have n1:n<340282366920938463463374607431768211456:=by omega
 have hf:=I5 k1 n0 n1
 have hp2:(2:Int)^k≤170141183460469231731687303715884105728:=by have:=rG k1;have h3:(2:Int)^127=170141183460469231731687303715884105728:=(by decide);omega
 have hpp:=au k
 have i1:inI n:=jI (by omega)
 have i2:inI (2^k):=jI (by omega)
 have KT:Hid (∀W,Calls prog 58 #[.int .i64 k] W (bK W (2^k) 1)):=h_ fun W=>by
  have:=aia W k (by omega) (by omega)
  rwa [show((k:Nat):Int).toNat=k by omega,show(-((k:Nat):Int)).toNat=0 by omega,Int.pow_zero]at this
 have KB:Hid (∀W,Calls prog 59 #[.agg #[.int .u64 hi,.int .u64 lo]] W (bK W n 1)):=h_ fun W=>by
  have:=aie W hi lo h0 h1 l0 l1
  rwa [hn]at this
 have KC:Hid (∀W va vb,Rq W va n 1→Rq W vb (2^k) 1→Calls prog 60 #[va,vb] W fun e w'=>e=.returned (.int .i64 (bW n (2^k)))∧Below W.heap.size W w'):=h_ fun W va vb q1 q2=>awq W va vb _ _ q1 q2 i1 i2
 have KS:Hid (∀W va vb,Rq W va n 1→Rq W vb (2^k) 1→Calls prog 44 #[va,vb] W (bK W (n-2^k) 1)):=h_ fun W va vb q1 q2=>atx W va vb _ _ q1 q2 i1 i2
 have KA:Hid (∀W va vb,Rq W va n 1→Rq W vb (2^k) 1→Calls prog 62 #[va,vb] W (bK W (n+2^k) 1)):=h_ fun W va vb q1 q2=>aic W va vb _ _ q1 q2 i1 i2
 have KP:Hid (∀W v,Rq W v (lL k n) 1→Calls prog 61 #[v] W (Vj W (lL k n))):=h_ fun W v q=>abL W v _ q hf.1 hf.2
 have w1:IntKind.i64.wrap (E+P)=E+P:=IntWalk.i64_in _ (by omega)
 have w2:IntKind.i64.wrap (E+P-1)=k:=by rw[hk];exact IntWalk.i64_in _ (by omega)
 rw[hn]
 have hX:=(((Below.refl w.heap.size w).alloc (Nat.le_refl _) (.cells #[.int .i64 E,.int .i64 P] 23)).alloc (by simp) (.cells #[.int .u64 hi,.int .u64 lo] 26)).alloc (by simp;omega) (.cells Ad 26)
 have hB:=Box.new ((w.alloc (.cells #[.int .i64 E,.int .i64 P] 23)).alloc (.cells #[.int .u64 hi,.int .u64 lo] 26)) Ad 26
 have hA:=(Box.new (w.alloc (.cells #[.int .i64 E,.int .i64 P] 23)) #[.int .u64 hi,.int .u64 lo] 26).alloc (.cells Ad 26)
 rw[World.size_alloc,World.size_alloc]at hB
 rw[World.size_alloc]at hA
 have HX:=h_ hX
 have HB:=h_ hB
 have HA:=h_ hA
 clear hn n0 n1 hf hp2 hpp i1 i2 h0 h1 l0 l1 hX hB hA hk k1 e0 p0
 go_enter func22,ntmps22
 go_wp2_with fail
 refine(KT.out _).mono ?_
 rintro e W1 ⟨v1,rfl,hv,hb⟩
 obtain⟨s4,o4,l4,c4,p4,m4,k4,rfl⟩:=hv.shape
 have hX7:=(Below.refl W1.heap.size W1).alloc (Nat.le_refl _) (.cells #[.int .i64 s4,.slice o4 l4 c4,.slice p4 m4 k4] 61)
 have B1:=h_ (HX.out.trans ((hb.trans (hX7.mono hb.size)).mono HX.out.size))
 have A1:=h_ ((HA.out.below hb).below hX7)
 have R1:=h_ ((HB.out.below hb).below hX7)
 have T1:=h_ (Box.new W1 #[.int .i64 s4,.slice o4 l4 c4,.slice p4 m4 k4] 61)
 have V1:=h_ (hv.below hX7)
 have cA:=A1.out.cell
 clear hv hb hX7 KT
 go_wp2_with fail
 refine(KB.out _).mono ?_
 rintro e W2 ⟨v2,rfl,hv,hb⟩
 obtain⟨s5,o5,l5,c5,p5,m5,k5,rfl⟩:=hv.shape
 have hX7:=(Below.refl W2.heap.size W2).alloc (Nat.le_refl _) (.cells #[.int .i64 s5,.slice o5 l5 c5,.slice p5 m5 k5] 61)
 have B2:=h_ (B1.out.trans ((hb.trans (hX7.mono hb.size)).mono B1.out.size))
 have R2:=h_ ((R1.out.below hb).below hX7)
 have T2:=h_ ((T1.out.below hb).below hX7)
 have N2:=h_ (Box.new W2 #[.int .i64 s5,.slice o5 l5 c5,.slice p5 m5 k5] 61)
 have V2:=h_ ((V1.out.below hb).below hX7)
 have V3:=h_ (hv.below hX7)
 have cT:=T2.out.cell
 clear hv hb hX7 KB cA
 go_wp2_with fail
 refine(KC.out _ _ _ V3.out V2.out).mono ?_
 rintro e W3 ⟨rfl,hb⟩
 have B3:=h_ (B2.out.trans (hb.mono B2.out.size))
 have R3:=h_ (R2.out.below hb)
 have T3:=h_ (T2.out.below hb)
 have N3:=h_ (N2.out.below hb)
 have V4:=h_ (V3.out.below hb)
 have V5:=h_ (V2.out.below hb)
 have cN:=N3.out.cell
 clear hb KC cT
 have cT:=T3.out.cell
 by_cases hlt:2^k≤n
 ·have hcm: ¬bW n (2^k)<0:=by unfold bW;rw[if_neg (by omega)];split<;>omega
  have HFl:Hid (lL k n=n-2^k):=h_ (by unfold lL;rw[if_pos hlt])
  clear hlt
  go_wp2_with fail
  refine(KS.out _ _ _ V4.out V5.out).mono ?_
  rintro e W4 ⟨v4,rfl,hv,hb⟩
  obtain⟨s8,o8,l8,c8,p8,m8,k8,rfl⟩:=hv.shape
  have B4:=h_ (B3.out.trans (hb.mono B3.out.size))
  have R4:=h_ (R3.out.below hb)
  have HPk:=h_ (KP.out W4 _ (by rw[HFl.out];exact hv))
  clear hv hb cT cN
  go_wp2_with fail
  refine HPk.out.mono ?_
  rintro e W5 ⟨rfl,hb⟩
  have B5:=h_ (B4.out.trans (hb.mono B4.out.size))
  have hR:=R4.out.below hb
  have cC:=hR.cell
  have fC:=hR.free
  have lC:=hR.lt
  clear hb HPk hR
  go_wp2_with fail
  refine bodyPost_ret (v:=.agg #[.int .u64 (lL k n/18446744073709551616),.int .u64 (lL k n%18446744073709551616)]) (by simp[results,results22,go_sem,cC,lC]) rfl ?_
  have ho:=oH (w.heap.size+1+1) W5 (.int .u64 (lL k n/18446744073709551616)) (.int .u64 (lL k n%18446744073709551616))
  exact⟨rfl,B5.out.trans (ho.below B5.out.size (by omega))⟩
 ·have hcm:bW n (2^k)= -1:=iV (by omega)
  have HFl:Hid (lL k n=n+2^k):=h_ (by unfold lL;rw[if_neg hlt])
  clear hlt
  rw[hcm]
  go_wp2_with fail
  refine(KA.out _ _ _ V4.out V5.out).mono ?_
  rintro e W4 ⟨v4,rfl,hv,hb⟩
  obtain⟨s8,o8,l8,c8,p8,m8,k8,rfl⟩:=hv.shape
  have B4:=h_ (B3.out.trans (hb.mono B3.out.size))
  have R4:=h_ (R3.out.below hb)
  have HPk:=h_ (KP.out W4 _ (by rw[HFl.out];exact hv))
  clear hv hb cT cN
  go_wp2_with fail
  refine HPk.out.mono ?_
  rintro e W5 ⟨rfl,hb⟩
  have B5:=h_ (B4.out.trans (hb.mono B4.out.size))
  have hR:=R4.out.below hb
  have cC:=hR.cell
  have fC:=hR.free
  have lC:=hR.lt
  clear hb HPk hR
  go_wp2_with fail
  refine bodyPost_ret (v:=.agg #[.int .u64 (lL k n/18446744073709551616),.int .u64 (lL k n%18446744073709551616)]) (by simp[results,results22,go_sem,cC,lC]) rfl ?_
  have ho:=oH (w.heap.size+1+1) W5 (.int .u64 (lL k n/18446744073709551616)) (.int .u64 (lL k n%18446744073709551616))
  exact⟨rfl,B5.out.trans (ho.below B5.out.size (by omega))⟩
end Go.Proofs.YtnapiakfbihnjaaGreatDoor.R
