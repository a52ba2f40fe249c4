/-
  Numerator and denominator of a number: parts: its contract.
-/
import Derived.Test.YtnapiakfbihnjaaGreatDoorP32
import Derived.Test.YtnapiakfbihnjaaGreatDoorP33
import Derived.Deep.RegionHeld3
set_option linter.unusedVariables false
set_option linter.unusedSimpArgs false
set_option maxHeartbeats 2000000
namespace Go.Proofs.YtnapiakfbihnjaaGreatDoor
open Go.RowKit Go.Shelf Tryz
attribute [local go_sem] fQ dP
def af7(w:World)(x y:Int)(e:Ending)(w':World):Prop:= ∃v1 v2,e=.returned (.tuple #[v1,v2])∧Nt w' v1 x∧Nt w' v2 y∧Below w.heap.size w w'
set_option maxRecDepth 100000 in
theorem af8(w:World)(v:Value)(s:Bool)(t b e:Int)(h:Nm w v s t b e)(ht:t<big)(hb:b<big)(b0:0<b)(he0: -1000000≤e)(he1:e≤1000000):
 Calls prog 112 #[v] w (af7 w (t*2^e.toNat) (b*2^(-e).toNat)):=by
 obtain⟨bo,lb,cb,aU,aS,cb2,rfl,n1,n2⟩:=h.ex
 obtain⟨m1,hm1⟩: ∃m,max e 0=m:=⟨_,rfl⟩
 obtain⟨m2,hm2⟩: ∃m,max (-e) 0=m:=⟨_,rfl⟩
 have HM:Hid (0≤m1∧m1<1000000000∧0≤m2∧m2<1000000000∧m1.toNat=e.toNat∧m2.toNat=(-e).toNat):=h_ (by omega)
 have hwn:IntKind.i64.wrap (-e)= -e:=IntWalk.i64_in _ (by omega)
 have HN:=h_ n1
 have hT:=h_ ht
 have hB:=h_ hb
 clear n1 ht hb h
 rcases n2 with⟨rfl,h1⟩|⟨h1,h2⟩
 ·injection h1 with z1 z2 z3
  subst z1 z2 z3
  have HBx:Hid (Box (w.alloc (.cells #[.bool s,.slice bo lb cb,.slice none 0 0,.int .i64 e] 45)) w.heap.size #[.bool s,.slice bo lb cb,.slice none 0 0,.int .i64 e]∧Below w.heap.size w (w.alloc (.cells #[.bool s,.slice bo lb cb,.slice none 0 0,.int .i64 e] 45))):=h_ ⟨Box.new w _ _,(Below.refl _ _).alloc (Nat.le_refl _) _⟩
  have HW0:Hid (Box ((w.alloc (.cells #[.bool s,.slice bo lb cb,.slice none 0 0,.int .i64 e] 45)).alloc (.cells #[.int .u64 1] 24)) w.heap.size #[.bool s,.slice bo lb cb,.slice none 0 0,.int .i64 e]∧Below w.heap.size w ((w.alloc (.cells #[.bool s,.slice bo lb cb,.slice none 0 0,.int .i64 e] 45)).alloc (.cells #[.int .u64 1] 24))∧Nt ((w.alloc (.cells #[.bool s,.slice bo lb cb,.slice none 0 0,.int .i64 e] 45)).alloc (.cells #[.int .u64 1] 24)) (.slice (some ⟨(w.alloc (.cells #[.bool s,.slice bo lb cb,.slice none 0 0,.int .i64 e] 45)).heap.size,0,none⟩) 1 1) 1):=h_ ⟨HBx.out.1.alloc _,HBx.out.2.alloc HBx.out.2.size _,(zO _ 1 (by decide) (by decide))⟩
  go_enter func112,ntmps112
  go_wp2_with fail
  obtain⟨g1,hg1⟩: ∃g1,(w.alloc (.cells #[.bool s,.slice bo lb cb,.slice none 0 0,.int .i64 e] 45)).heap.size=g1:=⟨_,rfl⟩
  rw[hg1]at HW0
  simp only[World.size_alloc]at hg1
  rw[hg1]
  generalize hWd:(w.alloc (.cells #[.bool s,.slice bo lb cb,.slice none 0 0,.int .i64 e] 45)).alloc (.cells #[.int .u64 1] 24)=W0 at HW0⊢
  obtain⟨g,hg⟩: ∃g,w.heap.size=g:=⟨_,rfl⟩
  have hst: ∀(U1 U2:World),Hid (Box U1 g #[.bool s,.slice bo lb cb,.slice none 0 0,.int .i64 e]∧Below W0.heap.size W0 U1)→Below U1.heap.size U1 U2→Hid (Box U2 g #[.bool s,.slice bo lb cb,.slice none 0 0,.int .i64 e]∧Below W0.heap.size W0 U2)∧U2.cell? ⟨g,0,none⟩=some (.bool s)∧U2.cell? ⟨g,1,none⟩=some (.slice bo lb cb)∧U2.cell? ⟨g,2,none⟩=some (.slice none 0 0)∧U2.cell? ⟨g,3,none⟩=some (.int .i64 e):=fun U1 U2 h hb=>
   have h2:=h.out.1.below hb
   ⟨h_ ⟨h2,h.out.2.trans (hb.mono h.out.2.size)⟩,h2.cell 0,h2.cell 1,h2.cell 2,h2.cell 3⟩
  have HSt:=h_ hst
  have H:Hid (Box W0 g #[.bool s,.slice bo lb cb,.slice none 0 0,.int .i64 e]∧Below W0.heap.size W0 W0):=h_ ⟨hg▸HW0.out.1,Below.refl _ _⟩
  have HL1:Hid (∀U,Below W0.heap.size W0 U→Calls prog 130 #[.slice bo lb cb,.int .i64 m1] U (bf U (t*2^e.toNat))):=h_ (fun U hU=>by
   have:=nT U _ t ((HN.out.below HW0.out.2.1).below hU) hT.out m1 HM.out.1 HM.out.2.1
   rwa [HM.out.2.2.2.2.1]at this)
  have HL2:Hid (∀U,Below W0.heap.size W0 U→Calls prog 130 #[.slice (some ⟨g1,0,none⟩) 1 1,.int .i64 m2] U (bf U (1*2^(-e).toNat))):=h_ (fun U hU=>by
   have:=nT U _ 1 (HW0.out.2.2.below hU) hB.out m2 HM.out.2.2.1 HM.out.2.2.2.1
   rwa [HM.out.2.2.2.2.2]at this)
  obtain⟨H0,r00,r01,r02,r03⟩:=HSt.out _ _ H (bz W0)
  rw[hg]
  clear hst hWd hg
  go_region_held3 (fun w'=>w'.cell? ⟨g,0,none⟩=some (.bool s)∧w'.cell? ⟨g,1,none⟩=some (.slice bo lb cb)∧w'.cell? ⟨g,2,none⟩=some (.slice none 0 0)∧w'.cell? ⟨g,3,none⟩=some (.int .i64 e)) (first|exact⟨r20,r21,r22,r23⟩|exact⟨r10,r11,r12,r13⟩|exact⟨r00,r01,r02,r03⟩)
   (first
   |(go_at_call 130;(with_reducible refine(HL1.out _ H0.out.2).mono ?_);rintro en w1 ⟨v1,rfl,hv,hb⟩;obtain⟨o1,l1,c1,rfl⟩:=hv.shape;obtain⟨H1,r10,r11,r12,r13⟩:=HSt.out _ _ H0 hb;have V1:=h_ hv;clear hv hb)
   |(go_at_call 130;(with_reducible refine(HL2.out _ H1.out.2).mono ?_);rintro en w2 ⟨v2,rfl,hv,hb⟩;obtain⟨o2,l2,c2,rfl⟩:=hv.shape;obtain⟨H2,r20,r21,r22,r23⟩:=HSt.out _ _ H1 hb;have V2:=h_ hv;have Vh:=h_ (V1.out.below hb);clear hv hb))
  all_goals
   clear r00 r01 r02 r03 r10 r11 r12 r13 r20 r21 r22 r23
   try go_wp2_with fail
   go_ret2
   exact⟨_,_,rfl,Vh.out,V2.out,HW0.out.2.1.trans (H2.out.2.mono HW0.out.2.1.size)⟩
 ·obtain⟨a2,rfl⟩: ∃a,aU=some a:=by
   cases aU with
   |none=>have:=h2.isNone;simp at this;omega
   |some a=>exact⟨a,rfl⟩
  have HBx:Hid (Box (w.alloc (.cells #[.bool s,.slice bo lb cb,.slice (some a2) aS cb2,.int .i64 e] 45)) w.heap.size #[.bool s,.slice bo lb cb,.slice (some a2) aS cb2,.int .i64 e]∧Below w.heap.size w (w.alloc (.cells #[.bool s,.slice bo lb cb,.slice (some a2) aS cb2,.int .i64 e] 45))):=h_ ⟨Box.new w _ _,(Below.refl _ _).alloc (Nat.le_refl _) _⟩
  have HW0:Hid (Box ((w.alloc (.cells #[.bool s,.slice bo lb cb,.slice (some a2) aS cb2,.int .i64 e] 45))) w.heap.size #[.bool s,.slice bo lb cb,.slice (some a2) aS cb2,.int .i64 e]∧Below w.heap.size w ((w.alloc (.cells #[.bool s,.slice bo lb cb,.slice (some a2) aS cb2,.int .i64 e] 45)))∧Nt ((w.alloc (.cells #[.bool s,.slice bo lb cb,.slice (some a2) aS cb2,.int .i64 e] 45))) (.slice (some a2) aS cb2) b):=h_ ⟨HBx.out.1,HBx.out.2,h2.below HBx.out.2⟩
  go_enter func112,ntmps112
  go_wp2_with fail
  generalize hWd:(w.alloc (.cells #[.bool s,.slice bo lb cb,.slice (some a2) aS cb2,.int .i64 e] 45))=W0 at HW0⊢
  obtain⟨g,hg⟩: ∃g,w.heap.size=g:=⟨_,rfl⟩
  have hst: ∀(U1 U2:World),Hid (Box U1 g #[.bool s,.slice bo lb cb,.slice (some a2) aS cb2,.int .i64 e]∧Below W0.heap.size W0 U1)→Below U1.heap.size U1 U2→Hid (Box U2 g #[.bool s,.slice bo lb cb,.slice (some a2) aS cb2,.int .i64 e]∧Below W0.heap.size W0 U2)∧U2.cell? ⟨g,0,none⟩=some (.bool s)∧U2.cell? ⟨g,1,none⟩=some (.slice bo lb cb)∧U2.cell? ⟨g,2,none⟩=some (.slice (some a2) aS cb2)∧U2.cell? ⟨g,3,none⟩=some (.int .i64 e):=fun U1 U2 h hb=>
   have h2:=h.out.1.below hb
   ⟨h_ ⟨h2,h.out.2.trans (hb.mono h.out.2.size)⟩,h2.cell 0,h2.cell 1,h2.cell 2,h2.cell 3⟩
  have HSt:=h_ hst
  have H:Hid (Box W0 g #[.bool s,.slice bo lb cb,.slice (some a2) aS cb2,.int .i64 e]∧Below W0.heap.size W0 W0):=h_ ⟨hg▸HW0.out.1,Below.refl _ _⟩
  have HL1:Hid (∀U,Below W0.heap.size W0 U→Calls prog 130 #[.slice bo lb cb,.int .i64 m1] U (bf U (t*2^e.toNat))):=h_ (fun U hU=>by
   have:=nT U _ t ((HN.out.below HW0.out.2.1).below hU) hT.out m1 HM.out.1 HM.out.2.1
   rwa [HM.out.2.2.2.2.1]at this)
  have HL2:Hid (∀U,Below W0.heap.size W0 U→Calls prog 130 #[.slice (some a2) aS cb2,.int .i64 m2] U (bf U (b*2^(-e).toNat))):=h_ (fun U hU=>by
   have:=nT U _ b (HW0.out.2.2.below hU) hB.out m2 HM.out.2.2.1 HM.out.2.2.2.1
   rwa [HM.out.2.2.2.2.2]at this)
  obtain⟨H0,r00,r01,r02,r03⟩:=HSt.out _ _ H (bz W0)
  rw[hg]
  clear hst hWd hg
  go_region_held3 (fun w'=>w'.cell? ⟨g,0,none⟩=some (.bool s)∧w'.cell? ⟨g,1,none⟩=some (.slice bo lb cb)∧w'.cell? ⟨g,2,none⟩=some (.slice (some a2) aS cb2)∧w'.cell? ⟨g,3,none⟩=some (.int .i64 e)) (first|exact⟨r20,r21,r22,r23⟩|exact⟨r10,r11,r12,r13⟩|exact⟨r00,r01,r02,r03⟩)
   (first
   |(go_at_call 130;(with_reducible refine(HL1.out _ H0.out.2).mono ?_);rintro en w1 ⟨v1,rfl,hv,hb⟩;obtain⟨o1,l1,c1,rfl⟩:=hv.shape;obtain⟨H1,r10,r11,r12,r13⟩:=HSt.out _ _ H0 hb;have V1:=h_ hv;clear hv hb)
   |(go_at_call 130;(with_reducible refine(HL2.out _ H1.out.2).mono ?_);rintro en w2 ⟨v2,rfl,hv,hb⟩;obtain⟨o2,l2,c2,rfl⟩:=hv.shape;obtain⟨H2,r20,r21,r22,r23⟩:=HSt.out _ _ H1 hb;have V2:=h_ hv;have Vh:=h_ (V1.out.below hb);clear hv hb))
  all_goals
   clear r00 r01 r02 r03 r10 r11 r12 r13 r20 r21 r22 r23
   try go_wp2_with fail
   go_ret2
   exact⟨_,_,rfl,Vh.out,V2.out,HW0.out.2.1.trans (H2.out.2.mono HW0.out.2.1.size)⟩
end Go.Proofs.YtnapiakfbihnjaaGreatDoor
namespace Go.Proofs.YtnapiakfbihnjaaGreatDoor
open Go.RowKit Go.Shelf Tryz
attribute [local go_sem] fQ dP
def txS(s:Bool)(t b e:Int):List UInt8:=
 if t=0 then [48]else(if s=true then [45]else [])++Lib.decDigits (t*2^e.toNat).toNat++(if b*2^(-e).toNat=1 then []else 47::Lib.decDigits (b*2^(-e).toNat).toNat)
theorem DU(x y:List UInt8):(⟨x.toArray⟩:ByteArray)++⟨y.toArray⟩=⟨(x++y).toArray⟩:=ByteArray.mk_append_mk ..
theorem uG(x:List UInt8):(⟨x.toArray⟩:ByteArray).size=x.length:=by simp[ByteArray.size]
theorem MS{x:Int}(h:x<bJ 6)(h0:0≤x):(Lib.decDigits x.toNat).length≤1216:=by
 rw[Lib.decDigits_length]
 refine uN 1215 x.toNat ?_
 generalize hN:1215+1=N
 have h2:=Jy 6
 have h3:=pO 6
 have:x.toNat<(bJ 6).toNat:=by omega
 rw[h2]at this
 have e:19*2^6=N:=by rw[←hN]
 rw[e]at this
 exact this
set_option maxRecDepth 100000 in
theorem ajb(w:World)(hP:uS w)(v:Value)(s:Bool)(t b e:Int)(h:Nm w v s t b e)(t0:0≤t)(b0:0<b)(he0: -1000000≤e)(he1:e≤1000000)(hT:t*2^e.toNat<bJ 6)(hB:b*2^(-e).toNat<bJ 6):
 Calls prog 57 #[v] w (wu w (txS s t b e)):=by
 have n0:=h
 obtain⟨bo,lb,cb,aU,aS,cb2,rfl,n1,n2⟩:=h.ex
 have hbx:Box (w.alloc (.cells #[.bool s,.slice bo lb cb,.slice aU aS cb2,.int .i64 e] 45)) w.heap.size #[.bool s,.slice bo lb cb,.slice aU aS cb2,.int .i64 e]:=Box.new w _ _
 have hbl:Below w.heap.size w (w.alloc (.cells #[.bool s,.slice bo lb cb,.slice aU aS cb2,.int .i64 e] 45)):=(Below.refl _ _).alloc (Nat.le_refl _) _
 by_cases hz:t=0
 ·subst hz
  have e1:=n1.nil
  injection e1 with z1 z2 z3
  subst z1 z2 z3
  have HB:=h_ hbl
  clear hP n0 n1 n2 hbx hbl hT hB
  go_enter func57,ntmps57
  go_wp2_with fail
  go_ret
  exact⟨rfl,HB.out⟩
 ·obtain⟨a,rfl⟩: ∃a,bo=some a:=by
   cases bo with
   |none=>have:=n1.isNone;simp at this;omega
   |some a=>exact⟨a,rfl⟩
  have hb6:=wK (show 6≤8 by omega)
  have p1:=au e.toNat
  have p2:=au (-e).toNat
  have tb:t≤t*2^e.toNat:=by
   have:=Int.mul_le_mul_of_nonneg_left (show 1≤(2:Int)^e.toNat by omega) t0
   omega
  have bb:b≤b*2^(-e).toNat:=by
   have:=Int.mul_le_mul_of_nonneg_left (show 1≤(2:Int)^(-e).toNat by omega) (show 0≤b by omega)
   omega
  have HPA:=h_ (af8 _ _ s t b e (n0.below hbl) (by omega) (by omega) b0 he0 he1)
  have htx:txS s t b e=(if s=true then [45]else [])++Lib.decDigits (t*2^e.toNat).toNat++(if b*2^(-e).toNat=1 then []else 47::Lib.decDigits (b*2^(-e).toNat).toNat):=by unfold txS;rw[if_neg hz]
  rw[htx]
  have l1:=MS hT (by omega)
  have l2:=MS hB (by omega)
  have T0:0<t*2^e.toNat:=by omega
  have B0:0<b*2^(-e).toNat:=by omega
  generalize t*2^e.toNat=T at*
  generalize b*2^(-e).toNat=B at*
  obtain⟨tn,rfl⟩: ∃n:Nat,T=n:=⟨T.toNat,by omega⟩
  obtain⟨bn,rfl⟩: ∃n:Nat,B=n:=⟨B.toNat,by omega⟩
  rw[Int.toNat_natCast]at l1 l2
  rw[Int.toNat_natCast,Int.toNat_natCast]
  have HH:=h_ (And.intro l1 l2)
  have HBX:=h_ (And.intro hbx hbl)
  have HDT:Hid (∀W v,Below w.heap.size w W→Nt W v (tn:Int)→Calls prog 113 #[v] W (wu W (Lib.decDigits tn))):=h_ (fun W v hb hv=>MR W (sU hP W hb) v tn hv (by omega) hT)
  have HDB:Hid (∀W v,Below w.heap.size w W→Nt W v (bn:Int)→Calls prog 113 #[v] W (wu W (Lib.decDigits bn))):=h_ (fun W v hb hv=>MR W (sU hP W hb) v bn hv (by omega) hB)
  have HIO:Hid (∀W v,Nt W v (bn:Int)→Calls prog 114 #[v] W fun e w'=>e=.returned (.bool (decide ((bn:Int)=1)))∧W=w'):=h_ (fun W v hv=>GK W v bn hv (by omega))
  clear hP n0 n1 n2 hbx hbl hT hB hb6 p1 p2 tb bb htx l1 l2 T0 B0 hz t0 b0 he0 he1
  generalize hsf:(if(bn:Int)=1 then []else 47::Lib.decDigits bn)=sf
  have HSF:=h_ hsf
  clear hsf
  cases s
  ·generalize hpf:(if false=true then [(45:UInt8)]else [])=pf
   have HPF:Hid (pf=[]):=h_ (by rw[←hpf];rfl)
   clear hpf
   go_enter func57,ntmps57
   go_wp2_with fail
   refine HPA.out.mono ?_
   rintro en w1 ⟨v1,v2,rfl,h1,h2,hb1⟩
   have HB1:Hid (Below w.heap.size w w1):=h_ (HBX.out.2.trans (hb1.mono HBX.out.2.size))
   have HX1:=h_ (HBX.out.1.below hb1)
   have HD1:=h_ (HDT.out w1 v1 HB1.out h1)
   have H2:=h_ h2
   obtain⟨o1,n1,c1,rfl⟩:=h1.shape
   obtain⟨o2,n2,c2,rfl⟩:=h2.shape
   clear h1 h2 hb1 HPA
   go_wp2_with fail
   refine HD1.out.mono ?_
   rintro en w2 ⟨rfl,hb2⟩
   have HB2:Hid (Below w.heap.size w w2):=h_ (HB1.out.trans (hb2.mono HB1.out.size))
   have HX2:=h_ (HX1.out.below hb2)
   have H22:=h_ (H2.out.below hb2)
   have HI:=h_ (HIO.out w2 _ H22.out)
   have HD2:=h_ (HDB.out w2 _ HB2.out H22.out)
   have c0:=HX2.out.cell 0
   clear hb2 HD1 H2 HDT HDB HIO
   obtain⟨l1,l2⟩:=HH.out
   generalize Lib.decDigits tn=DT at*
   generalize Lib.decDigits bn=DB at*
   generalize hone:decide ((bn:Int)=1)=one at HI
   have WU:=h_ hone
   clear hone
   have z1:=uG DT
   have z2:=uG DB
   have awG:(⟨#[45]⟩:ByteArray)++⟨DT.toArray⟩=⟨([45]++DT).toArray⟩:=DU [45] DT
   have hcs:(⟨#[45]⟩:ByteArray).size=1:=rfl
   go_wp2_with fail
   refine HI.out.mono ?_
   rintro en w3 ⟨rfl,rfl⟩
   have awH:(⟨#[47]⟩:ByteArray)++⟨DB.toArray⟩=⟨(47::DB).toArray⟩:=DU [47] DB
   have hcs2:(⟨#[47]⟩:ByteArray).size=1:=rfl
   have awI:(⟨(DT).toArray⟩:ByteArray)++⟨(47::DB).toArray⟩=⟨((DT)++47::DB).toArray⟩:=DU _ _
   have z3:=uG (47::DB)
   have z4:=uG (DT)
   have z5:(47::DB).length≤1217:=by simp;omega
   have z6:(DT).length≤1217:=by omega
   cases one
   ·have e2:sf=47::DB:=by rw[←HSF.out,if_neg (of_decide_eq_false WU.out)]
    have E2:=h_ e2
    clear e2
    go_wp2_with fail
    refine HD2.out.mono ?_
    rintro en w4 ⟨rfl,hb4⟩
    have HB4:=h_ (HB2.out.trans (hb4.mono HB2.out.size))
    clear hb4
    go_wp2_with fail
    go_ret
    exact⟨by rw[HPF.out,E2.out];rfl,HB4.out⟩
   ·have e2:sf=[]:=by rw[←HSF.out,if_pos (of_decide_eq_true WU.out)]
    have E2:=h_ e2
    clear e2
    go_wp2_with fail
    go_ret
    exact⟨by rw[HPF.out,E2.out,List.append_nil];rfl,HB2.out⟩
  ·generalize hpf:(if true=true then [(45:UInt8)]else [])=pf
   have HPF:Hid (pf=[45]):=h_ (by rw[←hpf];rfl)
   clear hpf
   go_enter func57,ntmps57
   go_wp2_with fail
   refine HPA.out.mono ?_
   rintro en w1 ⟨v1,v2,rfl,h1,h2,hb1⟩
   have HB1:Hid (Below w.heap.size w w1):=h_ (HBX.out.2.trans (hb1.mono HBX.out.2.size))
   have HX1:=h_ (HBX.out.1.below hb1)
   have HD1:=h_ (HDT.out w1 v1 HB1.out h1)
   have H2:=h_ h2
   obtain⟨o1,n1,c1,rfl⟩:=h1.shape
   obtain⟨o2,n2,c2,rfl⟩:=h2.shape
   clear h1 h2 hb1 HPA
   go_wp2_with fail
   refine HD1.out.mono ?_
   rintro en w2 ⟨rfl,hb2⟩
   have HB2:Hid (Below w.heap.size w w2):=h_ (HB1.out.trans (hb2.mono HB1.out.size))
   have HX2:=h_ (HX1.out.below hb2)
   have H22:=h_ (H2.out.below hb2)
   have HI:=h_ (HIO.out w2 _ H22.out)
   have HD2:=h_ (HDB.out w2 _ HB2.out H22.out)
   have c0:=HX2.out.cell 0
   clear hb2 HD1 H2 HDT HDB HIO
   obtain⟨l1,l2⟩:=HH.out
   generalize Lib.decDigits tn=DT at*
   generalize Lib.decDigits bn=DB at*
   generalize hone:decide ((bn:Int)=1)=one at HI
   have WU:=h_ hone
   clear hone
   have z1:=uG DT
   have z2:=uG DB
   have awG:(⟨#[45]⟩:ByteArray)++⟨DT.toArray⟩=⟨([45]++DT).toArray⟩:=DU [45] DT
   have hcs:(⟨#[45]⟩:ByteArray).size=1:=rfl
   go_wp2_with fail
   refine HI.out.mono ?_
   rintro en w3 ⟨rfl,rfl⟩
   have awH:(⟨#[47]⟩:ByteArray)++⟨DB.toArray⟩=⟨(47::DB).toArray⟩:=DU [47] DB
   have hcs2:(⟨#[47]⟩:ByteArray).size=1:=rfl
   have awI:(⟨(45::DT).toArray⟩:ByteArray)++⟨(47::DB).toArray⟩=⟨((45::DT)++47::DB).toArray⟩:=DU _ _
   have z3:=uG (47::DB)
   have z4:=uG (45::DT)
   have z5:(47::DB).length≤1217:=by simp;omega
   have z6:(45::DT).length≤1217:=by simp;omega
   cases one
   ·have e2:sf=47::DB:=by rw[←HSF.out,if_neg (of_decide_eq_false WU.out)]
    have E2:=h_ e2
    clear e2
    go_wp2_with fail
    refine HD2.out.mono ?_
    rintro en w4 ⟨rfl,hb4⟩
    have HB4:=h_ (HB2.out.trans (hb4.mono HB2.out.size))
    clear hb4
    go_wp2_with fail
    go_ret
    exact⟨by rw[HPF.out,E2.out];rfl,HB4.out⟩
   ·have e2:sf=[]:=by rw[←HSF.out,if_pos (of_decide_eq_true WU.out)]
    have E2:=h_ e2
    clear e2
    go_wp2_with fail
    go_ret
    exact⟨by rw[HPF.out,E2.out,List.append_nil];rfl,HB2.out⟩
end Go.Proofs.YtnapiakfbihnjaaGreatDoor
