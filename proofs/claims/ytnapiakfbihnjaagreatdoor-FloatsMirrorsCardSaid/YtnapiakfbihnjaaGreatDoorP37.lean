/-
  The reference's numbers: product, sum, comparison, quotient.
-/
import Derived.Test.YtnapiakfbihnjaaGreatDoorP18
import Derived.Test.YtnapiakfbihnjaaGreatDoorP33
set_option linter.unusedVariables false
set_option linter.unusedSimpArgs false
set_option maxHeartbeats 4000000
namespace Go.Proofs.YtnapiakfbihnjaaGreatDoor.R
open Go.RowKit Go.Shelf Tryz
theorem Rm.shape{w:World}{v:Value}{s n d:Int}(h:Rm w v s n d): ∃s' bo lb cb aU aS cb2,v=.agg #[.int .i64 s',.slice bo lb cb,.slice aU aS cb2]:=by
 obtain⟨bo,lb,cb,aU,aS,cb2,rfl,_⟩:=h.ex
 exact⟨_,_,_,_,_,_,_,rfl⟩
theorem Rq.shape{w:World}{v:Value}{K D:Int}(h:Rq w v K D): ∃s' bo lb cb aU aS cb2,v=.agg #[.int .i64 s',.slice bo lb cb,.slice aU aS cb2]:=by
 obtain⟨_,s,n,d,h,_⟩:=h
 exact h.shape
theorem Rm.only{w w':World}{g:Nat}{v:Value}{s n d:Int}(h:Rm w v s n d)(hB:Box w g dA)(ho:Only g w w'):Rm w' v s n d:=by
 obtain⟨bo,lb,cb,aU,aS,cb2,rfl,h1,h2⟩:=h.ex
 refine⟨_,_,_,_,_,_,rfl,h1.only hB ho,?_⟩
 rcases h2 with h|⟨h3,h4,h5,h6,h7⟩
 ·exact .inl h
 ·exact .inr ⟨h3,h4,h5,h6,h7.only hB ho⟩
theorem Rq.only{w w':World}{g:Nat}{v:Value}{K D:Int}(h:Rq w v K D)(hB:Box w g dA)(ho:Only g w w'):Rq w' v K D:=by
 obtain⟨h0,s,n,d,h1,h2⟩:=h
 exact⟨h0,s,n,d,h1.only hB ho,h2⟩
set_option maxRecDepth 100000 in
theorem Zn(w:World)(s1 s2:Int)(a1 a2 b1 b2:Option Addr)(l1 c1 l2 c2 m1 k1 m2 k2:Nat)(K D d1 d2 n d:Int)(hw:IntKind.i64.wrap (s1*s2)=s1*s2)
 (K1:Hid (∀W,Below w.heap.size w W→Calls prog 117 #[.slice a1 l1 c1,.slice b1 m1 k1] W (bf W n)))
 (KA:Hid (∀W,Below w.heap.size w W→Calls prog 118 #[.agg #[.int .i64 s1,.slice a1 l1 c1,.slice a2 l2 c2]] W (bf W d1)))
 (KB:Hid (∀W,Below w.heap.size w W→Calls prog 118 #[.agg #[.int .i64 s2,.slice b1 m1 k1,.slice b2 m2 k2]] W (bf W d2)))
 (KP:Hid (∀W va vb,Below w.heap.size w W→Nt W va d1→Nt W vb d2→Calls prog 117 #[va,vb] W (bf W d)))
 (KM:Hid (∀W va vb,Below w.heap.size w W→Nt W va n→Nt W vb d→Calls prog 119 #[.int .i64 (s1*s2),va,vb] W (bK W K D))):
 Calls prog 96 #[.agg #[.int .i64 s1,.slice a1 l1 c1,.slice a2 l2 c2],.agg #[.int .i64 s2,.slice b1 m1 k1,.slice b2 m2 k2]] w (bK w K D):=by
 go_enter func96,ntmps96
 go_wp2_with fail
 obtain⟨hA,hB,hC,hW0⟩:=zS w #[.int .i64 s1,.slice a1 l1 c1,.slice a2 l2 c2] #[.int .i64 s2,.slice b1 m1 k1,.slice b2 m2 k2] dA 61
 obtain⟨g,hg⟩: ∃g,w.heap.size=g:=⟨_,rfl⟩
 have HT0:sG w _ w.heap.size _ _ _:=⟨hW0,hA,hB,hC⟩
 rw[hg]at HT0
 have HG:=h_ hg
 rw[hg]at⊢
 clear hA hB hC hW0 hg
 generalize ((w.alloc (.cells #[.int .i64 s1,.slice a1 l1 c1,.slice a2 l2 c2] 61)).alloc (.cells #[.int .i64 s2,.slice b1 m1 k1,.slice b2 m2 k2] 61)).alloc (.cells dA 61)=W0 at HT0⊢
 have hst: ∀(U1 U2:World),Hid (sG w U1 g #[.int .i64 s1,.slice a1 l1 c1,.slice a2 l2 c2] #[.int .i64 s2,.slice b1 m1 k1,.slice b2 m2 k2] dA)→Below U1.heap.size U1 U2→Hid (sG w U2 g #[.int .i64 s1,.slice a1 l1 c1,.slice a2 l2 c2] #[.int .i64 s2,.slice b1 m1 k1,.slice b2 m2 k2] dA)∧U2.cell? ⟨g,0,none⟩=some (.int .i64 s1)∧U2.cell? ⟨g,1,none⟩=some (.slice a1 l1 c1)∧U2.cell? ⟨g,2,none⟩=some (.slice a2 l2 c2)∧U2.cell? ⟨g+1,0,none⟩=some (.int .i64 s2)∧U2.cell? ⟨g+1,1,none⟩=some (.slice b1 m1 k1)∧U2.cell? ⟨g+1,2,none⟩=some (.slice b2 m2 k2):=fun U1 U2 h hb=>
  have h2:=h.out.next hb
  ⟨h_ h2,h2.a.cell 0,h2.a.cell 1,h2.a.cell 2,h2.b.cell 0,h2.b.cell 1,h2.b.cell 2⟩
 have HSt:=h_ hst
 clear hst
 have HT:=h_ HT0
 have hc0:=HT0.a.cell
 have hc1:=HT0.b.cell
 clear HT0
 obtain⟨HA0,iC,iD,jf,uV,uX,uY⟩:=HSt.out _ _ HT (bz W0)
 go_region_held3 (fun w'=>w'.cell? ⟨g,0,none⟩=some (.int .i64 s1)∧w'.cell? ⟨g,1,none⟩=some (.slice a1 l1 c1)∧w'.cell? ⟨g,2,none⟩=some (.slice a2 l2 c2)∧w'.cell? ⟨g+1,0,none⟩=some (.int .i64 s2)∧w'.cell? ⟨g+1,1,none⟩=some (.slice b1 m1 k1)∧w'.cell? ⟨g+1,2,none⟩=some (.slice b2 m2 k2)) (first|exact⟨BB,BC,BD,LY,LZ,L6⟩|exact⟨jD,jE,kS,BF,BG,BH⟩|exact⟨jF,jG,kT,BI,BJ,BK⟩|exact⟨iE,iF,jg,uZ,ve,vg⟩|exact⟨iG,iH,jh,vk,vw,vz⟩|exact⟨iC,iD,jf,uV,uX,uY⟩|(simp[go_sem, *];done)|go_keep)
  (first
   |(go_at_call 117;(with_reducible refine(K1.out _ HA0.out.bel).mono ?_);rintro en GV ⟨zA1,rfl,hv,hb⟩;obtain⟨oA1,lA1,cA1,rfl⟩:=hv.shape;obtain⟨HA1,iG,iH,jh,vk,vw,vz⟩:=HSt.out _ _ HA0 hb;have VA1:=h_ hv;clear hv hb)
   |(go_at_call 118;(with_reducible refine(KA.out _ HA1.out.bel).mono ?_);rintro en BL ⟨P7,rfl,hv,hb⟩;obtain⟨Jb,lA2,Jc,rfl⟩:=hv.shape;obtain⟨HA2,iE,iF,jg,uZ,ve,vg⟩:=HSt.out _ _ HA1 hb;have VA2:=h_ hv;have iO:=h_ (VA1.out.below hb);clear hv hb)
   |(go_at_call 118;(with_reducible refine(KB.out _ HA2.out.bel).mono ?_);rintro en sH ⟨L8,rfl,hv,hb⟩;obtain⟨L9,lA3,Mc,rfl⟩:=hv.shape;obtain⟨mG,jF,jG,kT,BI,BJ,BK⟩:=HSt.out _ _ HA2 hb;have nV:=h_ hv;have kE:=h_ (iO.out.below hb);have kV:=h_ (VA2.out.below hb);clear hv hb)
   |(go_at_call 117;(with_reducible refine(KP.out _ _ _ mG.out.bel kV.out nV.out).mono ?_);rintro en wA4 ⟨Zo,rfl,hv,hb⟩;obtain⟨BM,BN,BO,rfl⟩:=hv.shape;obtain⟨HA4,jD,jE,kS,BF,BG,BH⟩:=HSt.out _ _ mG hb;have Aa:=h_ hv;have jM:=h_ (kE.out.below hb);have lQ:=h_ (kV.out.below hb);have kG:=h_ (nV.out.below hb);clear hv hb)
   |(go_at_call 119;(with_reducible refine(KM.out _ _ _ HA4.out.bel jM.out Aa.out).mono ?_);rintro en wA5 ⟨zA5,rfl,hv,hb⟩;obtain⟨sA5,oA5,lA5,cA5,qA5,mA5,kA5,rfl⟩:=hv.shape;obtain⟨Bl,BB,BC,BD,LY,LZ,L6⟩:=HSt.out _ _ HA4 hb;have VA5:=h_ hv;have DD:=h_ (jM.out.below hb);have NW:=h_ (lQ.out.below hb);have DF:=h_ (kG.out.below hb);have NZ:=h_ (Aa.out.below hb);have cC:=Bl.out.c.cell;have fC:=Bl.out.c.free;have lC:=Bl.out.c.lt;clear hv hb))
 clear iC iD jf uV uX uY iG iH jh vk vw vz iE iF jg uZ ve vg jF jG kT BI BJ BK jD jE kS BF BG BH BB BC BD LY LZ L6
 have xm:=DD
 have EW:=NW
 have BP:=DF
 have awh:=NZ
 go_wp2_with fail
 refine bodyPost_ret (v:=.agg #[.int .i64 sA5,.slice oA5 lA5 cA5,.slice qA5 mA5 kA5]) (by simp[results,results96,go_sem,cC,lC]) rfl ?_
 have ho:=dI (g+1+1) wA5 (.int .i64 sA5) (.slice oA5 lA5 cA5) (.slice qA5 mA5 kA5)
 exact⟨_,rfl,VA5.out.only Bl.out.c ho,Bl.out.bel.trans (ho.below Bl.out.bel.size (by have:=HG.out;omega))⟩
set_option maxRecDepth 100000 in
theorem aos(w:World)(s1 s2:Int)(a1 a2 b1 b2:Option Addr)(l1 c1 l2 c2 m1 k1 m2 k2:Nat)(d1 d2 p r d:Int)
 (hs1:s1=0∧p=0∨s1=1∨s1= -1) (hs2:s2=0∧r=0∨s2=1∨s2= -1) (p0:0≤p) (r0:0≤r) (hpr:p+r<big)
 (KP1:Hid (∀W va,Below w.heap.size w W→Nt W va d2→Calls prog 117 #[.slice a1 l1 c1,va] W (bf W p)))
 (KP2:Hid (∀W va,Below w.heap.size w W→Nt W va d1→Calls prog 117 #[.slice b1 m1 k1,va] W (bf W r)))
 (KA:Hid (∀W,Below w.heap.size w W→Calls prog 118 #[.agg #[.int .i64 s1,.slice a1 l1 c1,.slice a2 l2 c2]] W (bf W d1)))
 (KB:Hid (∀W,Below w.heap.size w W→Calls prog 118 #[.agg #[.int .i64 s2,.slice b1 m1 k1,.slice b2 m2 k2]] W (bf W d2)))
 (KP:Hid (∀W va vb,Below w.heap.size w W→Nt W va d1→Nt W vb d2→Calls prog 117 #[va,vb] W (bf W d)))
 (KM:Hid (∀W s va vb n,Below w.heap.size w W→(s=0∨s=1∨s= -1)→Nt W va n→n<big→Nt W vb d→Calls prog 119 #[.int .i64 s,va,vb] W (bK W (s*n) d))):
 Calls prog 62 #[.agg #[.int .i64 s1,.slice a1 l1 c1,.slice a2 l2 c2],.agg #[.int .i64 s2,.slice b1 m1 k1,.slice b2 m2 k2]] w (bK w (s1*p+s2*r) d):=by
 have hbp:p<big:=by omega
 have hbr:r<big:=by omega
 have KS:Hid (∀W va vb,Below w.heap.size w W→Nt W va p→Nt W vb r→Calls prog 120 #[va,vb] W (bf W (p+r))):=h_ fun W va vb _ h1 h2=>sum_any W va vb p r h1 h2 hbp hbr
 have KC:Hid (∀W va vb,Nt W va p→Nt W vb r→Calls prog 116 #[va,vb] W (jr W (.int .i64 (bW p r)))):=h_ fun W va vb h1 h2=>lw W va vb p r h1 h2 hbp hbr
 have HBd:Hid (p+r<big∧p<big∧r<big):=h_ ⟨hpr,hbp,hbr⟩
 clear hpr hbp hbr
 go_enter func62,ntmps62
 go_wp2_with fail
 obtain⟨hA,hB,hC,hW0⟩:=zS w #[.int .i64 s1,.slice a1 l1 c1,.slice a2 l2 c2] #[.int .i64 s2,.slice b1 m1 k1,.slice b2 m2 k2] dA 61
 obtain⟨g,hg⟩: ∃g,w.heap.size=g:=⟨_,rfl⟩
 have HT0:sG w _ w.heap.size _ _ _:=⟨hW0,hA,hB,hC⟩
 rw[hg]at HT0
 have HG:=h_ hg
 rw[hg]at⊢
 clear hA hB hC hW0 hg
 generalize ((w.alloc (.cells #[.int .i64 s1,.slice a1 l1 c1,.slice a2 l2 c2] 61)).alloc (.cells #[.int .i64 s2,.slice b1 m1 k1,.slice b2 m2 k2] 61)).alloc (.cells dA 61)=W0 at HT0⊢
 have hst: ∀(U1 U2:World),Hid (sG w U1 g #[.int .i64 s1,.slice a1 l1 c1,.slice a2 l2 c2] #[.int .i64 s2,.slice b1 m1 k1,.slice b2 m2 k2] dA)→Below U1.heap.size U1 U2→Hid (sG w U2 g #[.int .i64 s1,.slice a1 l1 c1,.slice a2 l2 c2] #[.int .i64 s2,.slice b1 m1 k1,.slice b2 m2 k2] dA)∧U2.cell? ⟨g,0,none⟩=some (.int .i64 s1)∧U2.cell? ⟨g,1,none⟩=some (.slice a1 l1 c1)∧U2.cell? ⟨g,2,none⟩=some (.slice a2 l2 c2)∧U2.cell? ⟨g+1,0,none⟩=some (.int .i64 s2)∧U2.cell? ⟨g+1,1,none⟩=some (.slice b1 m1 k1)∧U2.cell? ⟨g+1,2,none⟩=some (.slice b2 m2 k2):=fun U1 U2 h hb=>
  have h2:=h.out.next hb
  ⟨h_ h2,h2.a.cell 0,h2.a.cell 1,h2.a.cell 2,h2.b.cell 0,h2.b.cell 1,h2.b.cell 2⟩
 have HSt:=h_ hst
 clear hst
 have HT:=h_ HT0
 have hc0:=HT0.a.cell
 have hc1:=HT0.b.cell
 clear HT0
 obtain⟨HA0,iC,iD,jf,uV,uX,uY⟩:=HSt.out _ _ HT (bz W0)
 go_region_held3 (fun w'=>w'.cell? ⟨g,0,none⟩=some (.int .i64 s1)∧w'.cell? ⟨g,1,none⟩=some (.slice a1 l1 c1)∧w'.cell? ⟨g,2,none⟩=some (.slice a2 l2 c2)∧w'.cell? ⟨g+1,0,none⟩=some (.int .i64 s2)∧w'.cell? ⟨g+1,1,none⟩=some (.slice b1 m1 k1)∧w'.cell? ⟨g+1,2,none⟩=some (.slice b2 m2 k2)) (first|exact⟨jD,jE,kS,BF,BG,BH⟩|exact⟨jF,jG,kT,BI,BJ,BK⟩|exact⟨iE,iF,jg,uZ,ve,vg⟩|exact⟨iG,iH,jh,vk,vw,vz⟩|exact⟨iC,iD,jf,uV,uX,uY⟩)
  (first
   |(go_at_call 118;(with_reducible refine(KB.out _ HA0.out.bel).mono ?_);rintro en GV ⟨zA1,rfl,hv,hb⟩;obtain⟨oA1,lA1,cA1,rfl⟩:=hv.shape;obtain⟨HA1,iG,iH,jh,vk,vw,vz⟩:=HSt.out _ _ HA0 hb;have VA1:=h_ hv;clear hv hb)
   |(go_at_call 117;(with_reducible refine(KP1.out _ _ HA1.out.bel VA1.out).mono ?_);rintro en BL ⟨P7,rfl,hv,hb⟩;obtain⟨Jb,lA2,Jc,rfl⟩:=hv.shape;obtain⟨HA2,iE,iF,jg,uZ,ve,vg⟩:=HSt.out _ _ HA1 hb;have VA2:=h_ hv;have iO:=h_ (VA1.out.below hb);clear hv hb)
   |(go_at_call 118;(with_reducible refine(KA.out _ HA2.out.bel).mono ?_);rintro en sH ⟨L8,rfl,hv,hb⟩;obtain⟨L9,lA3,Mc,rfl⟩:=hv.shape;obtain⟨mG,jF,jG,kT,BI,BJ,BK⟩:=HSt.out _ _ HA2 hb;have nV:=h_ hv;have kE:=h_ (iO.out.below hb);have kV:=h_ (VA2.out.below hb);clear hv hb)
   |(go_at_call 117;(with_reducible refine(KP2.out _ _ mG.out.bel nV.out).mono ?_);rintro en wA4 ⟨Zo,rfl,hv,hb⟩;obtain⟨BM,BN,BO,rfl⟩:=hv.shape;obtain⟨HA4,jD,jE,kS,BF,BG,BH⟩:=HSt.out _ _ mG hb;have Aa:=h_ hv;have jM:=h_ (kE.out.below hb);have lQ:=h_ (kV.out.below hb);have kG:=h_ (nV.out.below hb);clear hv hb))
 clear iC iD jf uV uX uY iG iH jh vk vw vz iE iF jg uZ ve vg jF jG kT BI BJ BK jD jE kS BF BG BH
 have xm:=jM
 have EW:=lQ
 have BP:=kG
 go_wp2_with fail
 obtain⟨HB0,BQ,BR,BU,akl,akm,akn⟩:=HSt.out _ _ HA4 (bz wA4)
 have aot:=h_ (EW.out.below (bz wA4))
 have awj:=h_ (Aa.out.below (bz wA4))
 go_region_held3 (fun w'=>w'.cell? ⟨g,0,none⟩=some (.int .i64 s1)∧w'.cell? ⟨g,1,none⟩=some (.slice a1 l1 c1)∧w'.cell? ⟨g,2,none⟩=some (.slice a2 l2 c2)∧w'.cell? ⟨g+1,0,none⟩=some (.int .i64 s2)∧w'.cell? ⟨g+1,1,none⟩=some (.slice b1 m1 k1)∧w'.cell? ⟨g+1,2,none⟩=some (.slice b2 m2 k2)) (first|exact⟨ako,akp,akq,akr,aks,aku⟩|exact⟨BV,BX,BZ,akv,akw,akx⟩|exact⟨Cb,Cc,Ce,aky,akz,akA⟩|exact⟨BQ,BR,BU,akl,akm,akn⟩)
  (first
   |(go_at_call 118;(with_reducible refine(KA.out _ HB0.out.bel).mono ?_);rintro en wB1 ⟨zB1,rfl,hv,hb⟩;obtain⟨oB1,lB1,cB1,rfl⟩:=hv.shape;obtain⟨HB1,Cb,Cc,Ce,aky,akz,akA⟩:=HSt.out _ _ HB0 hb;have Md:=h_ hv;have ae4:=h_ (aot.out.below hb);have aou:=h_ (awj.out.below hb);clear hv hb)
   |(go_at_call 118;(with_reducible refine(KB.out _ HB1.out.bel).mono ?_);rintro en wB2 ⟨zB2,rfl,hv,hb⟩;obtain⟨Vd,lB2,cB2,rfl⟩:=hv.shape;obtain⟨HB2,BV,BX,BZ,akv,akw,akx⟩:=HSt.out _ _ HB1 hb;have VB2:=h_ hv;have ae6:=h_ (ae4.out.below hb);have aov:=h_ (aou.out.below hb);have zh:=h_ (Md.out.below hb);clear hv hb)
   |(go_at_call 117;(with_reducible refine(KP.out _ _ _ HB2.out.bel zh.out VB2.out).mono ?_);rintro en wB3 ⟨zB3,rfl,hv,hb⟩;obtain⟨oB3,lB3,cB3,rfl⟩:=hv.shape;obtain⟨HB3,ako,akp,akq,akr,aks,aku⟩:=HSt.out _ _ HB2 hb;have VB3:=h_ hv;have P8:=h_ (ae6.out.below hb);have Zp:=h_ (aov.out.below hb);have aow:=h_ (zh.out.below hb);have aox:=h_ (VB2.out.below hb);clear hv hb))
 clear BQ BR BU akl akm akn Cb Cc Ce aky akz akA BV BX BZ akv akw akx ako akp akq akr aks aku
 have azo:=P8
 have aAr:=Zp
 have akB:=aow
 have aAs:=aox
 have HP:=P8
 have HR:=Zp
 have HQ:=VB3
 have hcA:=HB3.out.a.cell
 have hcB:=HB3.out.b.cell
 by_cases z1:s1=0
 ·subst z1
  go_wp2_with fail
  refine(KS.out _ _ _ HB3.out.bel HP.out HR.out).mono ?_
  rintro e w4 ⟨v4,rfl,hv,hb⟩
  obtain⟨o4,l4,c4,rfl⟩:=hv.shape
  have H4:=h_ (HB3.out.next hb)
  have V4:=h_ hv
  have Q4:=h_ (HQ.out.below hb)
  clear hv hb
  go_wp2_with fail
  refine(KM.out _ _ _ _ _ H4.out.bel (by omega) V4.out HBd.out.1 Q4.out).mono ?_
  rintro e w5 ⟨v5,rfl,hv,hb⟩
  obtain⟨s5,o5,l5,c5,q5,m5,k5,rfl⟩:=hv.shape
  have H5:=h_ (H4.out.next hb)
  have V5:=h_ hv
  have cC:=H5.out.c.cell
  have fC:=H5.out.c.free
  have lC:=H5.out.c.lt
  clear hv hb hcA hcB
  go_wp2_with fail
  refine bodyPost_ret (v:=.agg #[.int .i64 s5,.slice o5 l5 c5,.slice q5 m5 k5]) (by simp[results,results62,go_sem,cC,lC]) rfl ?_
  have ho:=dI (g+1+1) w5 (.int .i64 s5) (.slice o5 l5 c5) (.slice q5 m5 k5)
  refine⟨_,rfl,?_,H5.out.bel.trans (ho.below H5.out.bel.size (by have:=HG.out;omega))⟩
  have hV:=V5.out.only H5.out.c ho
  have e:s2*(p+r)=0*p+s2*r:=by
   rcases hs1 with⟨_,h⟩|h|h
   ·rw[h];simp
   all_goals omega
  rw[←e];exact hV
 ·have z1':(s1==0)=false:=by simp[z1]
  by_cases z2:s2=0
  ·subst z2
   go_wp2_with fail
   refine(KS.out _ _ _ HB3.out.bel HP.out HR.out).mono ?_
   rintro e w4 ⟨v4,rfl,hv,hb⟩
   obtain⟨o4,l4,c4,rfl⟩:=hv.shape
   have H4:=h_ (HB3.out.next hb)
   have V4:=h_ hv
   have Q4:=h_ (HQ.out.below hb)
   clear hv hb
   go_wp2_with fail
   refine(KM.out _ _ _ _ _ H4.out.bel (by omega) V4.out HBd.out.1 Q4.out).mono ?_
   rintro e w5 ⟨v5,rfl,hv,hb⟩
   obtain⟨s5,o5,l5,c5,q5,m5,k5,rfl⟩:=hv.shape
   have H5:=h_ (H4.out.next hb)
   have V5:=h_ hv
   have cC:=H5.out.c.cell
   have fC:=H5.out.c.free
   have lC:=H5.out.c.lt
   clear hv hb hcA hcB
   go_wp2_with fail
   refine bodyPost_ret (v:=.agg #[.int .i64 s5,.slice o5 l5 c5,.slice q5 m5 k5]) (by simp[results,results62,go_sem,cC,lC]) rfl ?_
   have ho:=dI (g+1+1) w5 (.int .i64 s5) (.slice o5 l5 c5) (.slice q5 m5 k5)
   refine⟨_,rfl,?_,H5.out.bel.trans (ho.below H5.out.bel.size (by have:=HG.out;omega))⟩
   have hV:=V5.out.only H5.out.c ho
   have e:s1*(p+r)=s1*p+0*r:=by
    rcases hs2 with⟨_,h⟩|h|h
    ·rw[h];simp
    all_goals omega
   rw[←e];exact hV
  ·have z2':(s2==0)=false:=by simp[z2]
   by_cases z3:s1=s2
   ·have z3':(s1==s2)=true:=by simp[z3]
    clear z1 z2
    have Z3:=h_ z3
    clear z3
    go_wp2_with fail
    refine(KS.out _ _ _ HB3.out.bel HP.out HR.out).mono ?_
    rintro e w4 ⟨v4,rfl,hv,hb⟩
    obtain⟨o4,l4,c4,rfl⟩:=hv.shape
    have H4:=h_ (HB3.out.next hb)
    have V4:=h_ hv
    have Q4:=h_ (HQ.out.below hb)
    clear hv hb
    go_wp2_with fail
    refine(KM.out _ _ _ _ _ H4.out.bel (by omega) V4.out HBd.out.1 Q4.out).mono ?_
    rintro e w5 ⟨v5,rfl,hv,hb⟩
    obtain⟨s5,o5,l5,c5,q5,m5,k5,rfl⟩:=hv.shape
    have H5:=h_ (H4.out.next hb)
    have V5:=h_ hv
    have cC:=H5.out.c.cell
    have fC:=H5.out.c.free
    have lC:=H5.out.c.lt
    clear hv hb hcA hcB
    go_wp2_with fail
    refine bodyPost_ret (v:=.agg #[.int .i64 s5,.slice o5 l5 c5,.slice q5 m5 k5]) (by simp[results,results62,go_sem,cC,lC]) rfl ?_
    have ho:=dI (g+1+1) w5 (.int .i64 s5) (.slice o5 l5 c5) (.slice q5 m5 k5)
    refine⟨_,rfl,?_,H5.out.bel.trans (ho.below H5.out.bel.size (by have:=HG.out;omega))⟩
    have hV:=V5.out.only H5.out.c ho
    rw[show s1*p+s2*r=s1*(p+r)by rw[←Z3.out,Int.mul_add]];exact hV
   ·have z3':(s1==s2)=false:=by simp[z3]
    have E12:Hid (s1= -s2):=h_ (by omega)
    clear z1 z2
    go_wp2_with fail
    refine(KC.out _ _ _ HP.out HR.out).mono ?_
    rintro e w8 ⟨rfl,hd⟩
    have H8:=h_ (HB3.out.next (hd.below _))
    have HP8:=h_ (HP.out.below (hd.below _))
    have HR8:=h_ (HR.out.below (hd.below _))
    have HQ8:=h_ (HQ.out.below (hd.below _))
    clear hd hcA hcB
    by_cases hlt:p<r
    ·have hcm:bW p r= -1:=iV hlt
     rw[hcm]
     have KD2:Hid (∀W va vb,Below w.heap.size w W→Nt W va r→Nt W vb p→Calls prog 121 #[va,vb] W (bf W (r-p))):=h_ fun W va vb _ h1 h2=>iW W va vb r p h1 h2 HBd.out.2.2 (by omega)
     have KMC:Hid (∀W va vb,Below w.heap.size w W→Nt W va (r-p)→Nt W vb d→Calls prog 119 #[.int .i64 s2,va,vb] W (bK W (s2*(r-p)) d)):=h_ fun W va vb hW h1 h2=>KM.out W s2 va vb (r-p) hW (by omega) h1 (by have:=HBd.out.2.2;omega) h2
     go_wp2_with fail
     obtain⟨HC0,akD,akE,akF,akG,akH,akI⟩:=HSt.out _ _ H8 (bz w8)
     have akJ:=h_ (HP8.out.below (bz w8))
     have akK:=h_ (HR8.out.below (bz w8))
     have awl:=h_ (HQ8.out.below (bz w8))
     go_region_held3 (fun w'=>w'.cell? ⟨g,0,none⟩=some (.int .i64 s1)∧w'.cell? ⟨g,1,none⟩=some (.slice a1 l1 c1)∧w'.cell? ⟨g,2,none⟩=some (.slice a2 l2 c2)∧w'.cell? ⟨g+1,0,none⟩=some (.int .i64 s2)∧w'.cell? ⟨g+1,1,none⟩=some (.slice b1 m1 k1)∧w'.cell? ⟨g+1,2,none⟩=some (.slice b2 m2 k2)) (first|exact⟨akL,akM,akN,akO,akQ,akR⟩|exact⟨akS,akT,akU,akW,akX,akY⟩|exact⟨akD,akE,akF,akG,akH,akI⟩|(simp[go_sem, *];done)|go_keep)
      (first
       |(go_at_call 121;(with_reducible refine(KD2.out _ _ _ HC0.out.bel akK.out akJ.out).mono ?_);rintro en wC1 ⟨zC1,rfl,hv,hb⟩;obtain⟨oC1,lC1,cC1,rfl⟩:=hv.shape;obtain⟨HC1,akS,akT,akU,akW,akX,akY⟩:=HSt.out _ _ HC0 hb;have VC1:=h_ hv;have aoy:=h_ (akJ.out.below hb);have aoz:=h_ (akK.out.below hb);have Zq:=h_ (awl.out.below hb);clear hv hb)
       |(go_at_call 119;(with_reducible refine(KMC.out _ _ _ HC1.out.bel VC1.out Zq.out).mono ?_);rintro en wC2 ⟨zC2,rfl,hv,hb⟩;obtain⟨sC2,oC2,lC2,cC2,qC2,mC2,kC2,rfl⟩:=hv.shape;obtain⟨HC2,akL,akM,akN,akO,akQ,akR⟩:=HSt.out _ _ HC1 hb;have VC2:=h_ hv;have aoB:=h_ (aoy.out.below hb);have aoC:=h_ (aoz.out.below hb);have aoD:=h_ (Zq.out.below hb);have aoE:=h_ (VC1.out.below hb);have cC:=HC2.out.c.cell;have fC:=HC2.out.c.free;have lC:=HC2.out.c.lt;clear hv hb))
     clear akD akE akF akG akH akI akS akT akU akW akX akY akL akM akN akO akQ akR
     have aAt:=aoB
     have aAu:=aoC
     have aAv:=aoD
     have aAw:=aoE
     go_wp2_with fail
     refine bodyPost_ret (v:=.agg #[.int .i64 sC2,.slice oC2 lC2 cC2,.slice qC2 mC2 kC2]) (by simp[results,results62,go_sem,cC,lC]) rfl ?_
     have ho:=dI (g+1+1) wC2 (.int .i64 sC2) (.slice oC2 lC2 cC2) (.slice qC2 mC2 kC2)
     refine⟨_,rfl,?_,HC2.out.bel.trans (ho.below HC2.out.bel.size (by have:=HG.out;omega))⟩
     have hV:=VC2.out.only HC2.out.c ho
     rw[show s1*p+s2*r=s2*(r-p)by rw[E12.out,Int.mul_sub,Int.neg_mul];omega];exact hV
    ·have hcm: ¬bW p r<0:=by unfold bW;rw[if_neg hlt];split<;>omega
     have KD1:Hid (∀W va vb,Below w.heap.size w W→Nt W va p→Nt W vb r→Calls prog 121 #[va,vb] W (bf W (p-r))):=h_ fun W va vb _ h1 h2=>iW W va vb p r h1 h2 HBd.out.2.1 (by omega)
     have KMD:Hid (∀W va vb,Below w.heap.size w W→Nt W va (p-r)→Nt W vb d→Calls prog 119 #[.int .i64 s1,va,vb] W (bK W (s1*(p-r)) d)):=h_ fun W va vb hW h1 h2=>KM.out W s1 va vb (p-r) hW (by omega) h1 (by have:=HBd.out.2.1;omega) h2
     go_wp2_with fail
     obtain⟨HD0,akZ,ak0,ak1,ak2,ak3,ak5⟩:=HSt.out _ _ H8 (bz w8)
     have ak7:=h_ (HP8.out.below (bz w8))
     have ak8:=h_ (HR8.out.below (bz w8))
     have awn:=h_ (HQ8.out.below (bz w8))
     go_region_held3 (fun w'=>w'.cell? ⟨g,0,none⟩=some (.int .i64 s1)∧w'.cell? ⟨g,1,none⟩=some (.slice a1 l1 c1)∧w'.cell? ⟨g,2,none⟩=some (.slice a2 l2 c2)∧w'.cell? ⟨g+1,0,none⟩=some (.int .i64 s2)∧w'.cell? ⟨g+1,1,none⟩=some (.slice b1 m1 k1)∧w'.cell? ⟨g+1,2,none⟩=some (.slice b2 m2 k2)) (first|exact⟨ak9,ala,alb,alc,ale,alf⟩|exact⟨alg,alh,ali,alj,alk,alm⟩|exact⟨akZ,ak0,ak1,ak2,ak3,ak5⟩|(simp[go_sem, *];done)|go_keep)
      (first
       |(go_at_call 121;(with_reducible refine(KD1.out _ _ _ HD0.out.bel ak7.out ak8.out).mono ?_);rintro en wD1 ⟨zD1,rfl,hv,hb⟩;obtain⟨oD1,lD1,cD1,rfl⟩:=hv.shape;obtain⟨HD1,alg,alh,ali,alj,alk,alm⟩:=HSt.out _ _ HD0 hb;have VD1:=h_ hv;have aoF:=h_ (ak7.out.below hb);have aoG:=h_ (ak8.out.below hb);have Zr:=h_ (awn.out.below hb);clear hv hb)
       |(go_at_call 119;(with_reducible refine(KMD.out _ _ _ HD1.out.bel VD1.out Zr.out).mono ?_);rintro en wD2 ⟨zD2,rfl,hv,hb⟩;obtain⟨sD2,oD2,lD2,cD2,qD2,mD2,kD2,rfl⟩:=hv.shape;obtain⟨HD2,ak9,ala,alb,alc,ale,alf⟩:=HSt.out _ _ HD1 hb;have VD2:=h_ hv;have aoH:=h_ (aoF.out.below hb);have aoI:=h_ (aoG.out.below hb);have aoK:=h_ (Zr.out.below hb);have aoL:=h_ (VD1.out.below hb);have cC:=HD2.out.c.cell;have fC:=HD2.out.c.free;have lC:=HD2.out.c.lt;clear hv hb))
     clear akZ ak0 ak1 ak2 ak3 ak5 alg alh ali alj alk alm ak9 ala alb alc ale alf
     have aAy:=aoH
     have aAz:=aoI
     have aAB:=aoK
     have aAC:=aoL
     go_wp2_with fail
     refine bodyPost_ret (v:=.agg #[.int .i64 sD2,.slice oD2 lD2 cD2,.slice qD2 mD2 kD2]) (by simp[results,results62,go_sem,cC,lC]) rfl ?_
     have ho:=dI (g+1+1) wD2 (.int .i64 sD2) (.slice oD2 lD2 cD2) (.slice qD2 mD2 kD2)
     refine⟨_,rfl,?_,HD2.out.bel.trans (ho.below HD2.out.bel.size (by have:=HG.out;omega))⟩
     have hV:=VD2.out.only HD2.out.c ho
     rw[show s1*p+s2*r=s1*(p-r)by rw[show s2= -s1 by have:=E12.out;omega,Int.mul_sub,Int.neg_mul];omega];exact hV
end Go.Proofs.YtnapiakfbihnjaaGreatDoor.R
