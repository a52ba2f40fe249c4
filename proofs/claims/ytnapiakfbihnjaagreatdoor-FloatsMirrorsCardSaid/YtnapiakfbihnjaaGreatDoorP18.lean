/-
  The reference's greatest common divisor.
-/
import Derived.Test.YtnapiakfbihnjaaGreatDoorP16
import Derived.Test.YtnapiakfbihnjaaGreatDoorP17
set_option linter.unusedVariables false
set_option linter.unusedSimpArgs false
set_option maxRecDepth 1000000
set_option maxHeartbeats 2000000
namespace Go.Proofs.YtnapiakfbihnjaaGreatDoor.R
open Go.RowKit Go.Shelf
theorem lI(n:Nat):pw^n≤(2:Int)^(30*n):=by
 induction n with
 |zero=>simp
 |succ n ih=>
  rw[show 30*(n+1)=30*n+30 by omega,Int.pow_succ,Int.pow_add]
  exact Int.mul_le_mul ih (show(1000000000:Int)≤2^30 by decide) (by decide) (Int.le_of_lt (au _))
theorem apa{x:Int}{k:Nat}(h:(2:Int)^k≤x)(hx:x<big):k<60000:=by
 apply Classical.byContradiction
 intro hc
 have h1:(2:Int)^(30*2000)≤2^k:=by
  obtain⟨j,rfl⟩: ∃j,k=30*2000+j:=⟨k-30*2000,by omega⟩
  rw[Int.pow_add]
  have:=Int.mul_le_mul_of_nonneg_left (show(1:Int)≤2^j from au j) (Int.le_of_lt (au (30*2000)))
  omega
 have h2:big≤(2:Int)^(30*2000):=lI 2000
 generalize (2:Int)^(30*2000)=t at*
 omega
theorem gcd_both{a b:Int}(ha:a%2=0)(hb:b%2=0):(Int.gcd a b:Int)=2*Int.gcd (a/2) (b/2):=by
 have e1:a=2*(a/2):=by omega
 have e2:b=2*(b/2):=by omega
 have:=Int.gcd_mul_left 2 (a/2) (b/2)
 rw[←e1,←e2]at this
 rw[this];simp
theorem gcd_left{a b:Int}(ha:a%2=0)(h:Int.gcd a b%2=1):Int.gcd (a/2) b=Int.gcd a b:=by
 have e1:a=2*(a/2):=by omega
 have hb:b%2=1:=by
  apply Classical.byContradiction
  intro hc
  have:=gcd_both ha (show b%2=0 by omega)
  omega
 have:=Uc (a:=b) (b:=a) (m:=a/2) (k:=1) hb (by rw[Int.pow_one];exact e1)
 rw[Int.gcd_comm (a/2) b,←this,Int.gcd_comm]
theorem gcd_right{a b:Int}(hb:b%2=0)(h:Int.gcd a b%2=1):Int.gcd a (b/2)=Int.gcd a b:=by
 rw[Int.gcd_comm,gcd_left hb (by rw[Int.gcd_comm];exact h),Int.gcd_comm]
theorem apc{a b:Int}(h:a%2=1∨b%2=1):Int.gcd a b%2=1:=by
 apply Classical.byContradiction
 intro hc
 have hd:(2:Int)∣Int.gcd a b:=by omega
 have h1:=Int.dvd_trans hd (Int.gcd_dvd_left ..)
 have h2:=Int.dvd_trans hd (Int.gcd_dvd_right ..)
 omega
theorem P9(a b:Int):Int.gcd (a-b) b=Int.gcd a b:=by
 rw[Int.gcd_comm,JD b a,Int.gcd_comm]
theorem Ns.one{w:World}{b off cap:Nat}{zs:List Int}{n:Int}(h:Ns w b off cap zs n):(zs.length=1→gd zs 0=n)∧(n=1→zs.length=1):=by
 constructor
 ·intro hl
  obtain⟨z,rfl⟩:=List.length_eq_one_iff.1 hl
  have:=h.val
  simp[nv]at this
  simp[gd,this]
 ·intro hn
  have h1:=iI (k:=1) h.wd h.can h.val (by rw[hn];decide)
  have:=h.pos
  omega
structure mg(w wr:World)(G:Int)(k:Nat)(p q:Value)(a b:Int):Prop where
 na:Nt wr p a
 nb:Nt wr q b
 bw:Below w.heap.size w wr
 a1:a<big
 b1:b<big
 g:2^k*(Int.gcd a b:Int)=G
theorem mg.k{w wr:World}{G:Int}{k:Nat}{p q:Value}{a b:Int}(h:mg w wr G k p q a b)(b0:0<b)(hG:G<big):k<60000:=by
 refine apa (x:=G) ?_ hG
 rw[←h.g]
 have h1:(1:Int)≤Int.gcd a b:=by
  have:0<Int.gcd a b:=Int.gcd_pos_of_ne_zero_right a (by omega)
  omega
 have:=Int.mul_le_mul_of_nonneg_left h1 (Int.le_of_lt (au k))
 omega
theorem Xq(w:World)(va vb:Value)(x y:Int)(ha:Nt w va x)(hb:Nt w vb y)(hx:x<big)(hy:y<pw^1990)(y0:y≠0):
 Calls Tryz.prog 184 #[va,vb] w (bf w (Int.gcd x y)):=by
 have hyb:y<big:=by have:=bT (show 1990≤2000 by omega);unfold big;omega
 have y0':0<y:=by have:=hb.kM;omega
 have hxn:=ha.kM
 have HD:=h_ (xg w va vb x y ha hb hx hy y0)
 have HB:=h_ hb
 obtain⟨bo,lo,co,rfl⟩:=ha.shape
 obtain⟨aU,lo2,co2,rfl⟩:=hb.shape
 clear ha hb
 go_enter Tryz.func184,Tryz.ntmps184
 go_wp2_with fail
 refine HD.out.mono ?_
 rintro e w1 ⟨vq,vr,rfl,hq,hr,hbw⟩
 obtain⟨bo3,lo3,co3,rfl⟩:=hr.shape
 obtain⟨bo4,lo4,co4,rfl⟩:=hq.shape
 have HB1:=h_ (HB.out.below hbw)
 have HR:=h_ hr
 have HBw:=h_ hbw
 clear hq hbw
 have r0:0≤x%y:=Int.emod_nonneg _ y0
 have r1:x%y<y:=Int.emod_lt_of_pos _ y0'
 have hg:Int.gcd (x%y) y=Int.gcd x y:=by rw[Int.gcd_comm,JG]
 by_cases hz:x%y=0
 ·rw[hz]at hr
  obtain⟨_,p,cap,e,_⟩|h:=hr
  ·cases e
   go_wp2_with fail
   go_ret
   refine⟨_,rfl,?_,HBw.out⟩
   rw[←hg,hz]
   have:(Int.gcd 0 y:Int)=y:=by simp;omega
   rw[this];exact HB1.out
  ·obtain⟨_,_,_,_,_,h⟩:=h
   have:=h.npos;omega
 ·obtain⟨b3,o3,c3,z3,e,hN⟩:=hr.pos hz
  cases e
  have hpos:=hN.pos
  clear hr hN
  have HS:Hid (mg w w1 (Int.gcd x y) 0 (.slice (some ⟨b3,o3,none⟩) z3.length co3) (.slice aU lo2 co2) (x%y) y):=h_ ⟨HR.out,HB1.out,HBw.out,by omega,hyb,by rw[hg];simp⟩
  have ap:0<x%y:=by omega
  have hGb:(Int.gcd x y:Int)<big:=by
   have:(Int.gcd x y:Int)≤y:=by
    have:=Int.gcd_le_right (a:=x) (b:=y) y0'
    exact_mod_cast this
   omega
  generalize (Int.gcd x y:Int)=G at*
  generalize x%y=a at*
  generalize z3.length=l3 at*
  have hl0:((l3:Int)==0)=false:=by simp;omega
  go_wp2_with fail
  go_loopg [0,1,5] a.toNat (fun n p q u wr=> ∃(a b:Int) (k:Nat),u=.int .i64 k∧0<a∧0<b∧a.toNat≤n∧Hid (mg w wr G k p q a b))
  case atStart=>exact⟨a,y,0,rfl,ap,y0',Nat.le_refl _,HS⟩
  case round=>
   clear HS HR HB1 HB HBw HD
   obtain⟨a,b,k,rfl,a0,b0,hn,hI⟩:=hrel
   have hk:=hI.out.k b0 hGb
   have hoA:=rV wr _ a hI.out.na hI.out.a1
   have hoB:=rV wr _ b hI.out.nb hI.out.b1
   have HOA:=h_ hoA
   have HOB:=h_ hoB
   clear hoA hoB
   obtain⟨ba,oa,ca,za,rfl,hA⟩:=hI.out.na.pos (by omega)
   obtain⟨bb,ob,cb,zb,rfl,hB⟩:=hI.out.nb.pos (by omega)
   have HA:=h_ hA
   have HBB:=h_ hB
   clear hA hB
   have hkw:IntKind.i64.wrap ((k:Int)+1)=k+1:=IntWalk.i64_in _ (by omega)
   go_wp2_with fail
   refine HOA.out.mono ?_
   rintro e w' ⟨rfl,rfl⟩
   by_cases hoa:a%2=1
   case' neg=>
    go_wp2_with fail
    refine HOB.out.mono ?_
    rintro e w' ⟨rfl,rfl⟩
    by_cases hob:b%2=1
    rotate_left
    ·skip
     have HH:=h_ (EY wr ba oa ca za a HA.out hI.out.a1)
     have HB2:=h_ (fun wx (h:Below wr.heap.size wr wx)=>EY wx bb ob cb zb b (HBB.out.below h) hI.out.b1)
     go_wp2_with fail
     refine HH.out.mono ?_
     rintro e w2 ⟨v2,rfl,hv2,hb2⟩
     obtain⟨zU,zV,zW,rfl⟩:=hv2.shape
     go_wp2_with fail
     refine(HB2.out _ hb2).mono ?_
     rintro e w3 ⟨v3,rfl,hv3,hb3⟩
     obtain⟨bo6,lo6,co6,rfl⟩:=hv3.shape
     have HF:Hid (mg w w3 G (k+1) (.slice zU zV zW) (.slice bo6 lo6 co6) (a/2) (b/2)):=h_
      ⟨hv2.below hb3,hv3,hI.out.bw.trans ((hb2.trans (hb3.mono hb2.size)).mono hI.out.bw.size),by have:=hI.out.a1;omega,by have:=hI.out.b1;omega,by
       rw[←hI.out.g,gcd_both (show a%2=0 by omega) (show b%2=0 by omega),Int.pow_succ]
       exact Int.mul_assoc _ _ _⟩
     clear HH HB2 hv2 hb2 hv3 hb3
     go_wp2_with fail
     go_roundg (a/2).toNat
     case measure=>omega
     case rel=>exact⟨a/2,b/2,k+1,by go_num,by omega,by omega,Nat.le_refl _,HF⟩
   all_goals
    have hOD:Int.gcd a b%2=1:=apc (by omega)
    go_wp2_with fail
    try clear hob
    clear hoa hkw hn HOA HOB HA HBB
    go_loopg [0,1] (a+b).toNat (fun n p q wr=> ∃a b:Int,0≤a∧0<b∧(a=0→b%2=1)∧Int.gcd a b%2=1∧(a+b).toNat≤n∧Hid (mg w wr G k p q a b))
    case atStart=>exact⟨a,b,by omega,b0,by omega,hOD,Nat.le_refl _,hI⟩
    case round=>
     clear hI a0 b0 hOD
     obtain⟨a,b,a0,b0,hab,hOD,hn,hI⟩:=hrel
     obtain⟨bb,ob,cb,zb,rfl,hB⟩:=hI.out.nb.pos (by omega)
     by_cases ha0:a=0
     case' pos=>
      obtain⟨_,p,cap,rfl,_⟩|h:=hI.out.na
      rotate_left
      ·obtain⟨_,_,_,_,_,h⟩:=h
       have:=h.npos;omega
      have HE:Hid (Nt wr (.slice (some ⟨bb,ob,none⟩) zb.length cb) b∧b*2^k=G∧Below w.heap.size w wr):=h_ ⟨hI.out.nb,by
       rw[←hI.out.g,ha0,Int.mul_comm];congr 1;simp;omega,hI.out.bw⟩
      clear hab hOD
      go_wp2_with fail
     case' neg=>
      obtain⟨ba,oa,ca,za,rfl,hA⟩:=hI.out.na.pos ha0
      have hpos:=hA.pos
      clear hA
      go_wp2_with fail
      go_loopg [0] a.toNat (fun n p wr=> ∃a2:Int,0<a2∧a2≤a∧Int.gcd a2 b%2=1∧a2.toNat≤n∧Hid (mg w wr G k p (.slice (some ⟨bb,ob,none⟩) zb.length cb) a2 b))
      case atStart=>exact⟨a,by omega,Int.le_refl _,hOD,Nat.le_refl _,hI⟩
      clear hI hOD
      obtain⟨a2,a20,a2a,hOD,hn2,hI⟩:=hrel
      have HOA:=h_ (rV wr _ a2 hI.out.na hI.out.a1)
      obtain⟨ba2,oa2,ca2,za2,rfl,hA⟩:=hI.out.na.pos (by omega)
      have HA:=h_ (EY wr _ _ _ _ a2 hA hI.out.a1)
      clear hA
      go_wp2_with fail
      refine HOA.out.mono ?_
      rintro e w' ⟨rfl,rfl⟩
      clear HOA
      by_cases hoa:a2%2=1
      rotate_left
      ·go_wp2_with fail
       refine HA.out.mono ?_
       rintro e w2 ⟨v2,rfl,hv2,hb2⟩
       obtain⟨zU,zV,zW,rfl⟩:=hv2.shape
       have HF:Hid (mg w w2 G k (.slice zU zV zW) (.slice (some ⟨bb,ob,none⟩) zb.length cb) (a2/2) b):=h_
        ⟨hv2,hI.out.nb.below hb2,hI.out.bw.trans (hb2.mono hI.out.bw.size),by have:=hI.out.a1;omega,hI.out.b1,by rw[gcd_left (by omega) hOD];exact hI.out.g⟩
       clear HA hv2 hb2
       go_wp2_with fail
       go_roundg (a2/2).toNat
       case measure=>omega
       case rel=>exact⟨a2/2,by omega,by omega,by rw[gcd_left (by omega) hOD];exact hOD,Nat.le_refl _,HF⟩
      clear HA
      go_wp2_with fail
      go_loopg [1] b.toNat (fun n q wr=> ∃b2:Int,0<b2∧b2≤b∧Int.gcd a2 b2%2=1∧b2.toNat≤n∧Hid (mg w wr G k (.slice (some ⟨ba2,oa2,none⟩) za2.length ca2) q a2 b2))
      case atStart=>exact⟨b,b0,Int.le_refl _,hOD,Nat.le_refl _,hI⟩
      clear hI hOD
      obtain⟨b2,b20,b2b,hOD,hn3,hI⟩:=hrel
      have HOB:=h_ (rV wr _ b2 hI.out.nb hI.out.b1)
      obtain⟨bb2,ob2,cb2,zb2,rfl,hB2⟩:=hI.out.nb.pos (by omega)
      have HB2:=h_ (EY wr _ _ _ _ b2 hB2 hI.out.b1)
      have HN:=h_ hB2
      clear hB2
      go_wp2_with fail
      refine HOB.out.mono ?_
      rintro e w' ⟨rfl,rfl⟩
      clear HOB
      by_cases hob:b2%2=1
      rotate_left
      ·go_wp2_with fail
       refine HB2.out.mono ?_
       rintro e w2 ⟨v2,rfl,hv2,hb2⟩
       obtain⟨zU,zV,zW,rfl⟩:=hv2.shape
       have HF:Hid (mg w w2 G k (.slice (some ⟨ba2,oa2,none⟩) za2.length ca2) (.slice zU zV zW) a2 (b2/2)):=h_
        ⟨hI.out.na.below hb2,hv2,hI.out.bw.trans (hb2.mono hI.out.bw.size),hI.out.a1,by have:=hI.out.b1;omega,by rw[gcd_right (by omega) hOD];exact hI.out.g⟩
       clear HB2 hv2 hb2
       go_wp2_with fail
       go_roundg (b2/2).toNat
       case measure=>omega
       case rel=>exact⟨b2/2,by omega,by omega,by rw[gcd_right (by omega) hOD];exact hOD,Nat.le_refl _,HF⟩
      clear HB2
      have cB:=HN.out.row 0 HN.out.pos
      rw[Nat.add_zero]at cB
      obtain⟨o1,o2⟩:=HN.out.one
      have aAG:=HN.out.pos
      by_cases hb1:b2=1
      rotate_left
      ·have HC:=h_ (lw wr _ _ a2 b2 hI.out.na hI.out.nb hI.out.a1 hI.out.b1)
       clear HN
       generalize zb2.length=l2 at*
       by_cases hl1:l2=1
       case' pos=>
        have hc1:=o1 hl1
        have hl2:((l2:Int)==1)=true:=by simp;omega
        rw[hc1]at cB
        clear hc1 hl1
       case' neg=>
        have hl2:((l2:Int)==1)=false:=by simp;omega
        clear hl1
       all_goals
        clear o1 o2
        go_wp2_with fail
        refine HC.out.mono ?_
        rintro e w2 ⟨rfl,hd⟩
        have hI2:mg w w2 G k _ _ a2 b2:=⟨hI.out.na.below (hd.below _),hI.out.nb.below (hd.below _),hI.out.bw.trans (hd.below _),hI.out.a1,hI.out.b1,hI.out.g⟩
        have hs2:w.heap.size≤w2.heap.size:=hI2.bw.size
        have HI2:=h_ hI2
        clear HC hd hI2
        by_cases hlt:a2<b2
        ·have hcm:bW a2 b2= -1:=iV hlt
         rw[hcm]
         have HD:=h_ (iW w2 _ _ b2 a2 HI2.out.nb HI2.out.na HI2.out.b1 (by omega))
         go_wp2_with fail
         refine HD.out.mono ?_
         rintro e w3 ⟨v3,rfl,hv3,hb3⟩
         obtain⟨zU,zV,zW,rfl⟩:=hv3.shape
         have hg2:Int.gcd (b2-a2) a2=Int.gcd a2 b2:=by rw[P9,Int.gcd_comm]
         have HF:Hid (mg w w3 G k (.slice zU zV zW) (.slice (some ⟨ba2,oa2,none⟩) za2.length ca2) (b2-a2) a2):=h_
          ⟨hv3,HI2.out.na.below hb3,HI2.out.bw.trans (hb3.mono hs2),by have:=HI2.out.b1;omega,HI2.out.a1,by rw[hg2];exact HI2.out.g⟩
         clear HD hv3 hb3
         go_wp2_with fail
         go_roundg (b2-a2+a2).toNat
         case measure=>omega
         case rel=>exact⟨b2-a2,a2,by omega,a20,by omega,by rw[hg2];exact hOD,Nat.le_refl _,HF⟩
        ·have hcm: ¬bW a2 b2<0:=by unfold bW;rw[if_neg hlt];split<;>omega
         have HD:=h_ (iW w2 _ _ a2 b2 HI2.out.na HI2.out.nb HI2.out.a1 (by omega))
         go_wp2_with fail
         refine HD.out.mono ?_
         rintro e w3 ⟨v3,rfl,hv3,hb3⟩
         obtain⟨zU,zV,zW,rfl⟩:=hv3.shape
         have hg2:Int.gcd (a2-b2) b2=Int.gcd a2 b2:=P9 a2 b2
         have HF:Hid (mg w w3 G k (.slice zU zV zW) (.slice (some ⟨bb2,ob2,none⟩) l2 cb2) (a2-b2) b2):=h_
          ⟨hv3,HI2.out.nb.below hb3,HI2.out.bw.trans (hb3.mono hs2),by have:=HI2.out.a1;omega,HI2.out.b1,by rw[hg2];exact HI2.out.g⟩
         clear HD hv3 hb3
         go_wp2_with fail
         go_roundg (a2-b2+b2).toNat
         case measure=>omega
         case rel=>exact⟨a2-b2,b2,by omega,b20,by omega,by rw[hg2];exact hOD,Nat.le_refl _,HF⟩
      have hl1:zb2.length=1:=o2 hb1
      have hc1:=o1 hl1
      rw[hc1,hb1]at cB
      clear o1 o2 hc1
      have HE:Hid (Nt wr (.slice (some ⟨bb2,ob2,none⟩) zb2.length cb2) b2∧b2*2^k=G∧Below w.heap.size w wr):=h_ ⟨hI.out.nb,by
       rw[←hI.out.g,hb1,Int.mul_comm];congr 1;simp,hI.out.bw⟩
      clear HN
      rw[hl1]at HE
      go_wp2_with fail
     all_goals
      go_loopw [1,6] (fun q u wr=> ∃(i:Nat) (B:Int),B*2^k=G∧0≤B∧i≤k∧u=.int .i64 i∧Hid (Nt wr q (B*2^i)∧Below w.heap.size w wr)) (fun _ u _=>k-(intOf u).toNat)
      case atStart=>exact⟨0,_,HE.out.2.1,HE.out.1.kM,Nat.zero_le _,rfl,h_ ⟨by rw[Int.pow_zero,Int.mul_one];exact HE.out.1,HE.out.2.2⟩⟩
      clear HE hI
      obtain⟨i,B,hB,B0,hik,rfl,hr⟩:=hrel
      by_cases hlt:i<k
      ·have hb:B*2^i<big:=by
        have h1:=Int.mul_le_mul_of_nonneg_left (rG (Nat.le_of_lt hlt)) B0
        omega
       have HS:=h_ (sum_any wr _ _ _ _ hr.out.1 hr.out.1 hb hb)
       have HBw:=h_ hr.out.2
       obtain⟨Y7,lo7,co7,rfl⟩:=hr.out.1.shape
       have HG:=h_ hB
       clear hr hb hB
       go_wp2_with fail
       refine HS.out.mono ?_
       rintro e w3 ⟨v3,rfl,hv3,hb3⟩
       obtain⟨zU,zV,zW,rfl⟩:=hv3.shape
       have HF:Hid (Nt w3 (.slice zU zV zW) (B*2^(i+1))∧Below w.heap.size w w3):=h_ ⟨by rw[Int.pow_succ,←Int.mul_assoc,show B*2^i*2=B*2^i+B*2^i by omega];exact hv3,HBw.out.trans (hb3.mono HBw.out.size)⟩
       clear HS hv3 hb3
       go_wp2_with fail
       go_roundw
       case rel=>exact⟨i+1,B,HG.out,B0,hlt,by go_num,HF⟩
       case measure=>simp[intOf]<;>omega
      ·obtain rfl:i=k:=by omega
       obtain⟨Y7,lo7,co7,rfl⟩:=hr.out.1.shape
       have HF:Hid (Nt wr (.slice Y7 lo7 co7) G∧Below w.heap.size w wr):=h_ ⟨by rw[←hB];exact hr.out.1,hr.out.2⟩
       clear hr hB
       go_wp2_with fail
       go_ret
       exact⟨_,rfl,HF.out.1,HF.out.2⟩
end Go.Proofs.YtnapiakfbihnjaaGreatDoor.R
namespace Go.Proofs.YtnapiakfbihnjaaGreatDoor.R
open Go.RowKit Go.Shelf Tryz
abbrev dA:Array Value:= #[.int .i64 0,.slice none 0 0,.slice none 0 0]
structure Rm(w:World)(v:Value)(s n d:Int):Prop where
 ex: ∃bo lb cb aU aS cb2,v=.agg #[.int .i64 s,.slice bo lb cb,.slice aU aS cb2]∧Nt w (.slice bo lb cb) n∧
  ((s=0∧n=0∧d=1∧bo=none∧lb=0∧cb=0∧aU=none∧aS=0∧cb2=0)∨((s=1∨s= -1)∧0<n∧0<d∧Int.gcd n d=1∧Nt w (.slice aU aS cb2) d))
theorem Rm.below{w w':World}{v:Value}{s n d:Int}(h:Rm w v s n d)(hw:Below w.heap.size w w'):Rm w' v s n d:=by
 obtain⟨bo,lb,cb,aU,aS,cb2,rfl,h1,h2⟩:=h.ex
 refine⟨_,_,_,_,_,_,rfl,h1.below hw,?_⟩
 rcases h2 with h|⟨h3,h4,h5,h6,h7⟩
 ·exact .inl h
 ·exact .inr ⟨h3,h4,h5,h6,h7.below hw⟩
def Rq(w:World)(v:Value)(K D:Int):Prop:=0<D∧ ∃s n d,Rm w v s n d∧s*n*D=K*d
def bK(w:World)(K D:Int)(e:Ending)(w':World):Prop:= ∃v,e=.returned v∧Rq w' v K D∧Below w.heap.size w w'
theorem Rq.below{w w':World}{v:Value}{K D:Int}(h:Rq w v K D)(hw:Below w.heap.size w w'):Rq w' v K D:=by
 obtain⟨h0,s,n,d,h1,h2⟩:=h
 exact⟨h0,s,n,d,h1.below hw,h2⟩
theorem Rm.pos{w:World}{v:Value}{s n d:Int}(h:Rm w v s n d):0<d∧0≤n∧(s=0∧n=0∧d=1∨(s=1∨s= -1)∧0<n):=by
 obtain⟨bo,lb,cb,aU,aS,cb2,rfl,h1,h2⟩:=h.ex
 rcases h2 with⟨h,h',h'',_⟩|⟨h3,h4,h5,h6,h7⟩
 ·exact⟨by omega,by omega,.inl ⟨h,h',h''⟩⟩
 ·exact⟨h5,by omega,.inr ⟨h3,h4⟩⟩
theorem Rm.zero(w:World):Rm w (.agg dA) 0 0 1:=⟨_,_,_,_,_,_,rfl,Nt.zero _,.inl ⟨rfl,rfl,rfl,rfl,rfl,rfl,rfl,rfl,rfl⟩⟩
theorem Ns.neZ{w:World}{b off cap g:Nat}{zs:List Int}{n:Int}(h:Ns w b off cap zs n)(hB:Box w g dA):b≠g:=by
 rintro rfl
 have h1:=h.row (zs.length-1) (by have:=h.pos;omega)
 have h2:=h.top
 rw[hB.cell]at h1
 generalize off+(zs.length-1)=o at h1
 rcases o with _|_|_|o<;>simp at h1
 omega
theorem Nt.only{w w':World}{g:Nat}{v:Value}{n:Int}(h:Nt w v n)(hB:Box w g dA)(ho:Only g w w'):Nt w' v n:=by
 rcases h with h|⟨b,off,cap,zs,rfl,h⟩
 ·exact .inl h
 ·exact(h.only ho (h.neZ hB)).nt
theorem dI(g:Nat)(w:World)(a b c:Value):Only g w (((w.setCell ⟨g,0,none⟩ a).setCell ⟨g,1,none⟩ b).setCell ⟨g,2,none⟩ c):=(((Only.refl g w).set _ _).set _ _).set _ _
theorem one_any(w:World):Calls prog 162 #[] w (bf w 1):=by
 go_enter func162,ntmps162
 go_wp2_with fail
 go_ret
 exact⟨_,rfl,zO w 1 (by omega) (by omega),(Below.refl _ _).alloc (Nat.le_refl _) _⟩
theorem qY{x y:Int}:(bW x y==0)=decide (x=y):=by
 unfold bW;split
 ·have: ¬x=y:=by omega
  simp[this]
 ·split
  ·have: ¬x=y:=by omega
   simp[this]
  ·have:x=y:=by omega
   simp[this]
theorem Bz{w2:World}{g:Nat}{s n d K D:Int}{bo aU:Option Addr}{lb cb aS cb2:Nat}(hs:s=1∨s= -1)(hB:Box w2 g dA)(hp:Nt w2 (.slice bo lb cb) n)(hq:Nt w2 (.slice aU aS cb2) d)(n0:0<n)(d0:0<d)(hg:Int.gcd n d=1)(hD:0<D)(he:s*n*D=K*d):
 Rq (((w2.setCell ⟨g,0,none⟩ (.int .i64 s)).setCell ⟨g,1,none⟩ (.slice bo lb cb)).setCell ⟨g,2,none⟩ (.slice aU aS cb2)) (.agg #[.int .i64 s,.slice bo lb cb,.slice aU aS cb2]) K D:=
 have ho:=dI g w2 (.int .i64 s) (.slice bo lb cb) (.slice aU aS cb2)
 ⟨hD,s,n,d,⟨_,_,_,_,_,_,rfl,hp.only hB ho,.inr ⟨hs,n0,d0,hg,hq.only hB ho⟩⟩,he⟩
theorem wH(w:World)(s n d:Int)(vp vq:Value)(hs:s=0∨s=1∨s= -1)(hp:Nt w vp n)(hq:Nt w vq d)(hn:n<big)(hd:d<pw^1990)(d0:0<d):
 Calls prog 119 #[.int .i64 s,vp,vq] w (bK w (s*n) d):=by
 have hdb:d<big:=by have:=bT (show 1990≤2000 by omega);unfold big;omega
 have n0:=hp.kM
 have HQ:=h_ hq
 have HP:=h_ hp
 obtain⟨aU,aS,cb2,rfl⟩:=hq.shape
 obtain⟨bo,lb,cb,rfl⟩:=hp.shape
 have hX:=(Below.refl w.heap.size w).alloc (Nat.le_refl _) (.cells dA 61)
 have hB:=Box.new w dA 61
 have HX:=h_ hX
 have HB:=h_ hB
 have cB:=hB.cell
 have fB:=hB.free
 have lB:=hB.lt
 have hlb:(lb=0∧n=0)∨(0<lb∧0<n):=by
  rcases hp with⟨h1,p,cap,e,_⟩|⟨b,off,cap,zs,e,h⟩
  ·cases e;exact .inl ⟨rfl,h1⟩
  ·cases e;exact .inr ⟨h.pos,h.npos⟩
 clear hq hp hX hB
 rcases hlb with⟨rfl,rfl⟩|⟨hl,np⟩
 ·go_enter func119,ntmps119
  go_wp2_with fail
  refine bodyPost_ret (v:=.agg dA) (by simp[results,results119,go_sem]) rfl ?_
  exact⟨_,rfl,⟨d0,0,0,1,Rm.zero _,by simp⟩,HX.out⟩
 ·rcases hs with rfl|hs
  ·have hl0:((lb:Int)==0)=false:=by simp;omega
   go_enter func119,ntmps119
   go_wp2_with fail
   refine bodyPost_ret (v:=.agg dA) (by simp[results,results119,go_sem]) rfl ?_
   exact⟨_,rfl,⟨d0,0,0,1,Rm.zero _,by simp⟩,HX.out⟩
  ·have hl0:((lb:Int)==0)=false:=by simp;omega
   have hs0:(s==0)=false:=by simp;omega
   go_enter func119,ntmps119
   go_wp2_with fail
   clear cB fB lB hl0 hs0
   generalize hW:w.alloc (.cells dA 61)=W0 at*
   clear hW
   generalize hg:w.heap.size=g at*
   have HG:=h_ hg
   have hgW:g<W0.heap.size:=HB.out.lt
   have HN:=h_ (And.intro hn (And.intro hd hdb))
   clear hg hn hd hdb
   refine(one_any W0).mono ?_
   rintro e w1 ⟨v1,rfl,hv1,hb1⟩
   obtain⟨bo3,lo3,co3,rfl⟩:=hv1.shape
   have HB1:=h_ hb1
   have HW1:=h_ (HX.out.trans (hb1.mono (Nat.le_of_lt hgW)))
   have hwg:g≤w.heap.size:=by have:=HG.out;omega
   have HC:=h_ (lw w1 _ _ n 1 (HP.out.below (HW1.out.mono (by have:=HG.out;omega))) hv1 HN.out.1 (by unfold big;exact Int.lt_of_lt_of_le (show(1:Int)<pw^1 by decide) (bT (by omega))))
   clear hv1 hb1
   go_wp2_with fail
   refine HC.out.mono ?_
   rintro e w2 ⟨rfl,hd2⟩
   have HW2:=h_ (HW1.out.trans (hd2.below g))
   have HB2:=h_ (HB1.out.trans (hd2.below W0.heap.size))
   clear HC hd2
   by_cases hn1:n=1
   ·have hc:(bW n 1==0)=true:=by rw[qY];simp[hn1]
    have hB2:=HB.out.below HB2.out
    have cB:=hB2.cell
    have fB:=hB2.free
    have lB:=hB2.lt
    have HBx:=h_ hB2
    have hn1':=h_ hn1
    clear hB2 hn1
    go_wp2_with fail
    refine bodyPost_ret (v:=.agg #[.int .i64 s,.slice bo lb cb,.slice aU aS cb2]) (by simp[results,results119,go_sem,cB,lB]) rfl ?_
    exact⟨_,rfl,Bz hs HBx.out (HP.out.below (HW2.out.mono (by have:=HG.out;omega))) (HQ.out.below (HW2.out.mono (by have:=HG.out;omega))) np d0 (by rw[hn1'.out];exact Int.one_gcd) d0 rfl,(HW2.out.trans ((dI g w2 _ _ _).below (by have:=HW2.out.size;have:=HB2.out.size;omega) (Nat.le_refl _))).mono (by have:=HG.out;omega)⟩
   ·have hc:(bW n 1==0)=false:=by rw[qY];simp[hn1]
    go_wp2_with fail
    refine(one_any w2).mono ?_
    rintro e w3 ⟨v3,rfl,hv3,hb3⟩
    obtain⟨bo4,lo4,co4,rfl⟩:=hv3.shape
    have hs2:W0.heap.size≤w2.heap.size:=HB2.out.size
    have HW3:=h_ (HW2.out.trans (hb3.mono (by omega)))
    have HB3:=h_ (HB2.out.trans (hb3.mono hs2))
    have H1:(1:Int)<big:=by unfold big;exact Int.lt_of_lt_of_le (show(1:Int)<pw^1 by decide) (bT (by omega))
    have HH1:=h_ H1
    have HC:=h_ (lw w3 _ _ d 1 (HQ.out.below (HW3.out.mono (by have:=HG.out;omega))) hv3 HN.out.2.2 H1)
    clear hv3 hb3 hc H1
    go_wp2_with fail
    refine HC.out.mono ?_
    rintro e w4 ⟨rfl,hd4⟩
    have HW4:=h_ (HW3.out.trans (hd4.below g))
    have HB4:=h_ (HB3.out.trans (hd4.below W0.heap.size))
    clear HC hd4
    by_cases hd1:d=1
    ·have hc:(bW d 1==0)=true:=by rw[qY];simp[hd1]
     have hB2:=HB.out.below HB4.out
     have cB:=hB2.cell
     have fB:=hB2.free
     have lB:=hB2.lt
     have HBx:=h_ hB2
     have ay2:=h_ hd1
     clear hB2 hd1
     go_wp2_with fail
     refine bodyPost_ret (v:=.agg #[.int .i64 s,.slice bo lb cb,.slice aU aS cb2]) (by simp[results,results119,go_sem,cB,lB]) rfl ?_
     exact⟨_,rfl,Bz hs HBx.out (HP.out.below (HW4.out.mono (by have:=HG.out;omega))) (HQ.out.below (HW4.out.mono (by have:=HG.out;omega))) np d0 (by rw[ay2.out];exact Int.gcd_one) d0 rfl,(HW4.out.trans ((dI g w4 _ _ _).below (by have:=HW4.out.size;have:=HB4.out.size;omega) (Nat.le_refl _))).mono (by have:=HG.out;omega)⟩
    ·have hc:(bW d 1==0)=false:=by rw[qY];simp[hd1]
     have HP4:=h_ (HP.out.below (HW4.out.mono (by have:=HG.out;omega)))
     have HQ4:=h_ (HQ.out.below (HW4.out.mono (by have:=HG.out;omega)))
     have HDv:=h_ (Xq w4 _ _ n d HP4.out HQ4.out HN.out.1 HN.out.2.1 (by omega))
     go_wp2_with fail
     refine HDv.out.mono ?_
     rintro e w5 ⟨v5,rfl,hv5,hb5⟩
     obtain⟨zU,zV,zW,rfl⟩:=hv5.shape
     have hs4:W0.heap.size≤w4.heap.size:=HB4.out.size
     have Gu:=h_ (HB4.out.trans (hb5.mono hs4))
     have atb:=h_ hb5
     have HV5:=h_ hv5
     clear HDv hv5 hb5 hc
     go_wp2_with fail
     refine(one_any w5).mono ?_
     rintro e w6 ⟨v6,rfl,hv6,hb6⟩
     obtain⟨bo6,lo6,co6,rfl⟩:=hv6.shape
     have hs5:w4.heap.size≤w5.heap.size:=atb.out.size
     have HG0:Hid (0<Int.gcd n d):=h_ (Int.gcd_pos_of_ne_zero_right n (by omega))
     have HGd:Hid ((Int.gcd n d:Int)≤d):=h_ (by have:=Int.gcd_le_right (a:=n) (b:=d) d0;exact_mod_cast this)
     have HC:=h_ (lw w6 _ _ _ 1 (HV5.out.below hb6) hv6 (by have:=HGd.out;have:=HN.out.2.2;omega) HH1.out)
     have ay3:=h_ (atb.out.trans (hb6.mono hs5))
     have ay4:=h_ hb6
     clear hv6 hb6
     go_wp2_with fail
     refine HC.out.mono ?_
     rintro e w7 ⟨rfl,hd7⟩
     have GU:=h_ (ay3.out.trans (hd7.below w4.heap.size))
     have HV7:=h_ (HV5.out.below (ay4.out.trans (hd7.below _)))
     clear HC hd7
     by_cases hg1:(Int.gcd n d:Int)=1
     ·have hc:(bW (Int.gcd n d:Int) 1==0)=true:=by rw[qY];simp[hg1]
      have hB2:=HB.out.below (HB4.out.trans (GU.out.mono hs4))
      have cB:=hB2.cell
      have fB:=hB2.free
      have lB:=hB2.lt
      have HBx:=h_ hB2
      have hg1':=h_ hg1
      clear hB2 hg1
      go_wp2_with fail
      refine bodyPost_ret (v:=.agg #[.int .i64 s,.slice bo lb cb,.slice aU aS cb2]) (by simp[results,results119,go_sem,cB,lB]) rfl ?_
      have hW7:=HW4.out.trans (GU.out.mono (by have:=HW4.out.size;omega))
      exact⟨_,rfl,Bz hs HBx.out (HP4.out.below GU.out) (HQ4.out.below GU.out) np d0 (by have:=hg1'.out;exact_mod_cast this) d0 rfl,(hW7.trans ((dI g w7 _ _ _).below (by have:=GU.out.size;omega) (Nat.le_refl _))).mono (by have:=HG.out;omega)⟩
     ·have hc:(bW (Int.gcd n d:Int) 1==0)=false:=by rw[qY];simp;omega
      go_wp2_with fail
      have HD1:=h_ (xg w7 _ _ n _ (HP4.out.below GU.out) HV7.out HN.out.1 (by have:=HGd.out;have:=HN.out.2.1;omega) (by have:=HG0.out;omega))
      clear hc hg1
      go_wp2_with fail
      refine HD1.out.mono ?_
      rintro e w8 ⟨va,vb,rfl,hva,hvb,hb8⟩
      obtain⟨Y7,lo7,co7,rfl⟩:=hva.shape
      obtain⟨bo8,lo8,co8,rfl⟩:=hvb.shape
      have hs7:w4.heap.size≤w7.heap.size:=GU.out.size
      have ah4:=h_ (GU.out.trans (hb8.mono hs7))
      have HV8:=h_ (HV7.out.below hb8)
      have Vb:=h_ hva
      have HD2:=h_ (xg w8 _ _ d _ (HQ4.out.below ah4.out) HV8.out HN.out.2.2 (by have:=HGd.out;have:=HN.out.2.1;omega) (by have:=HG0.out;omega))
      clear HD1 hva hvb hb8
      go_wp2_with fail
      refine HD2.out.mono ?_
      rintro e w9 ⟨vc,vd,rfl,hvc,hvd,hb9⟩
      obtain⟨bo9,lo9,co9,rfl⟩:=hvc.shape
      obtain⟨aAS,aAT,aAU,rfl⟩:=hvd.shape
      have hs8:w4.heap.size≤w8.heap.size:=ah4.out.size
      have ah5:=h_ (ah4.out.trans (hb9.mono hs8))
      have HA9:=h_ (Vb.out.below hb9)
      have HC9:=h_ hvc
      have hB2:=HB.out.below (HB4.out.trans (ah5.out.mono hs4))
      have cB:=hB2.cell
      have fB:=hB2.free
      have lB:=hB2.lt
      have HBx:=h_ hB2
      clear HD2 hvc hvd hb9 hB2
      go_wp2_with fail
      refine bodyPost_ret (v:=.agg #[.int .i64 s,.slice Y7 lo7 co7,.slice bo9 lo9 co9]) (by simp[results,results119,go_sem,cB,lB]) rfl ?_
      have hW9:=HW4.out.trans (ah5.out.mono (by have:=HW4.out.size;omega))
      have hG0:=HG0.out
      have e1:=Int.ediv_mul_cancel (Int.gcd_dvd_left (a:=n) (b:=d))
      have e2:=Int.ediv_mul_cancel (Int.gcd_dvd_right (a:=n) (b:=d))
      have e3:=Int.gcd_ediv_gcd_ediv_gcd hG0
      have e4:0<n/(Int.gcd n d:Int):=Int.ediv_pos_of_pos_of_dvd np (by omega) (Int.gcd_dvd_left ..)
      have e5:0<d/(Int.gcd n d:Int):=Int.ediv_pos_of_pos_of_dvd d0 (by omega) (Int.gcd_dvd_right ..)
      refine⟨_,rfl,Bz hs HBx.out HA9.out HC9.out e4 e5 e3 d0 ?_,(hW9.trans ((dI g w9 _ _ _).below (by have:=ah5.out.size;omega) (Nat.le_refl _))).mono (by have:=HG.out;omega)⟩
      generalize n/(Int.gcd n d:Int)=a at*
      generalize d/(Int.gcd n d:Int)=b at*
      generalize (Int.gcd n d:Int)=G at*
      rw[←e1,←e2];grind
theorem nR(w:World)(v:Value)(s n d:Int)(h:Rm w v s n d):Calls prog 118 #[v] w (bf w d):=by
 obtain⟨bo,lb,cb,aU,aS,cb2,rfl,h1,h2⟩:=h.ex
 have hb:=(Below.refl w.heap.size w).alloc (Nat.le_refl _) (.cells #[.int .i64 s,.slice bo lb cb,.slice aU aS cb2] 61)
 have HB:=h_ hb
 rcases h2 with⟨rfl,rfl,rfl,rfl,rfl,rfl,rfl,rfl,rfl⟩|⟨hs,n0,d0,hg,hd⟩
 ·clear h h1 hb
  go_enter func118,ntmps118
  go_wp2_with fail
  refine(one_any _).mono ?_
  rintro e w1 ⟨v1,rfl,hv1,hb1⟩
  have HV:=h_ (And.intro hv1 hb1)
  clear hv1 hb1
  go_wp2_with fail
  go_ret
  exact⟨_,rfl,HV.out.1,HB.out.trans (HV.out.2.mono HB.out.size)⟩
 ·have hs0:(s==0)=false:=by simp;omega
  have HD:=h_ (hd.below hb)
  clear h h1 hb hd hs n0 d0 hg
  go_enter func118,ntmps118
  go_wp2_with fail
  go_ret
  exact⟨_,rfl,HD.out,HB.out⟩
def ae2(w:World)(s n d:Int)(e:Ending)(w':World):Prop:= ∃v,e=.returned v∧Rm w' v s n d∧Below w.heap.size w w'
theorem Rm.sgn{w:World}{s n d:Int}{bo aU:Option Addr}{lb cb aS cb2:Nat}(h:Rm w (.agg #[.int .i64 s,.slice bo lb cb,.slice aU aS cb2]) s n d)(s':Int)(hs:(s=0∧s'=0)∨(s≠0∧(s'=1∨s'= -1))):Rm w (.agg #[.int .i64 s',.slice bo lb cb,.slice aU aS cb2]) s' n d:=by
 obtain⟨bo,lb,cb,aU,aS,cb2,e,h1,h2⟩:=h.ex
 cases e
 refine⟨_,_,_,_,_,_,rfl,h1,?_⟩
 rcases h2 with⟨h3,h4⟩|⟨h3,h4⟩
 ·exact .inl ⟨by omega,h4⟩
 ·exact .inr ⟨by omega,h4⟩
theorem NR(w:World)(v:Value)(s n d:Int)(h:Rm w v s n d):Calls prog 81 #[v] w (ae2 w (-s) n d):=by
 have hp:=h.pos
 obtain⟨bo,lb,cb,aU,aS,cb2,rfl,h1,h2⟩:=h.ex
 have H:=h_ h
 have hw:IntKind.i64.wrap (-s)= -s:=IntWalk.i64_in _ (by omega)
 clear h h1 h2
 go_enter func81,ntmps81
 go_wp2_with fail
 refine bodyPost_ret (v:=.agg #[.int .i64 (-s),.slice bo lb cb,.slice aU aS cb2]) (by simp[results,results81,go_sem]) rfl ?_
 have hb:=((Below.refl w.heap.size w).alloc (Nat.le_refl _) (.cells #[.int .i64 s,.slice bo lb cb,.slice aU aS cb2] 61)).alloc (by simp) (.cells #[.int .i64 (-s),.slice bo lb cb,.slice aU aS cb2] 61)
 exact⟨_,rfl,(H.out.below hb).sgn _ (by omega),hb⟩
structure LX(x:Int)(m:Int)(L:List Int):Prop where
 wd:Wd L
 val:nv L+pw^L.length*m=x
 top:m=0→L≠ []→gd L (L.length-1)≠0
 m0:0≤m
theorem ah6{x m:Int}{L:List Int}(h:LX x m L)(h0:0<m):LX x (m/1000000000) (L++[m%1000000000]):=by
 have a0:=Int.emod_nonneg m (show(1000000000:Int)≠0 by decide)
 have a1:=Int.emod_lt_of_pos m (show(0:Int)<1000000000 by decide)
 refine⟨oL.2 ⟨h.wd,oI.2 ⟨⟨a0,a1⟩,qR⟩⟩,?_,fun h1 _=>?_,by omega⟩
 ·rw[IC,List.length_append,List.length_singleton,Int.pow_succ,←h.val,show pw^L.length*pw=pw^L.length*1000000000 from rfl]
  have e:=Int.mul_ediv_add_emod m 1000000000
  generalize m/1000000000=q at*
  generalize m%1000000000=r at*
  subst e
  generalize pw^L.length=P
  grind
 ·have:gd (L++[m%1000000000]) ((L++[m%1000000000]).length-1)=m%1000000000:=by
   simp[gd]
  rw[this];omega
theorem atc{w:World}{base:Nat}{v:Value}{L:List Int}{x:Int}(ho:w.ownsRow base 2 1 v L.length (L.map (Value.int .i64)))(h:LX x 0 L):Nt w v x:=by
 have hx:nv L=x:=by have:=h.val;rw[Int.mul_zero,Int.add_zero]at this;exact this
 have ho2:=ho
 obtain⟨h1,h2⟩:=ho
 rcases h2 with⟨rfl,h3⟩|⟨g,cap,cur,rfl,hge,hh,h3,_⟩
 ·have:L=[]:=by
   have:L.length=0:=by simpa using h3
   exact List.length_eq_zero_iff.1 this
  subst this
  exact hx▸Nt.zero w
 ·by_cases h0:L=[]
  ·subst h0
   exact .inl ⟨by simpa [nv]using hx.symm,_,_,rfl,fun h=>by cases h⟩
  ·have hr:=zZ.row (cap:=cap) (g:=g) ho2
   exact .inr ⟨g,0,cap,L,rfl,⟨hr.2.2,List.length_pos_iff.2 h0,hr.2.1.lt,h.wd,h.top rfl h0,hx,hr.1,hr.2.1⟩⟩
theorem aor(w:World)(base:Nat):w.ownsRow base 2 1 (.slice none 0 0) ([]:List Int).length (([]:List Int).map (Value.int .i64)):=⟨rfl,.inl ⟨rfl,rfl⟩⟩
theorem Xr(w:World)(x:Int)(x0:0≤x)(x1:x<18446744073709551616):Calls prog 161 #[.int .u64 x] w (bf w x):=by
 obtain⟨i0,hi,hz0,hz1,hz2⟩:=info_parts IE
 go_enter func161,ntmps161
 go_wp2_with fail
 go_loopw [0,3] (fun u v wr=> ∃(m:Int) (L:List Int),u=.int .u64 m∧m<18446744073709551616∧L.length≤20000∧0≤m∧Hid (wr.ownsRow w.heap.size 2 1 v L.length (L.map (Value.int .i64))∧LX x m L∧Below w.heap.size w wr∧m*2^L.length≤x)) (fun u _ _=>(intOf u).toNat)
 case atStart=>exact⟨x,[],rfl,x1,by simp,x0,h_ ⟨aor w _,⟨qR,by simp[nv],fun _ h=>absurd rfl h,x0⟩,Below.refl _ _,by simp⟩⟩
 case round=>
  obtain⟨m,L,rfl,m1,hl,m0,hr⟩:=hrel
  by_cases h0:0<m
  ·obtain⟨ho,hN,hB,hx⟩:=hr.out
   obtain⟨bo,lo,co,rfl⟩: ∃bo lo co,u3=.slice bo lo co:=by
    obtain⟨_,h2⟩:=ho
    rcases h2 with⟨rfl,_⟩|⟨_,_,_,rfl,_⟩<;>exact⟨_,_,_,rfl⟩
   have aAV:L.length<64:=by
    apply Classical.byContradiction
    intro hc
    have h1:=rG (show 64≤L.length by omega)
    have h2:=Int.mul_le_mul_of_nonneg_right (show 1≤m by omega) (Int.le_of_lt (au L.length))
    have h3:(2:Int)^64=18446744073709551616:=by decide
    omega
   have hd1:Int.tmod m 1000000000=m%1000000000:=Int.tmod_eq_emod_of_nonneg m0
   have hd2:Int.tdiv m 1000000000=m/1000000000:=Int.tdiv_eq_ediv_of_nonneg m0
   have hw1:IntKind.u64.wrap (m%1000000000)=m%1000000000:=IntWalk.u64_in _ (by omega)
   have hw2:IntKind.u64.wrap (m/1000000000)=m/1000000000:=IntWalk.u64_in _ (by omega)
   have hw3:IntKind.i64.wrap (m%1000000000)=m%1000000000:=IntWalk.i64_in _ (by omega)
   have HO:=h_ ho
   have HN:=h_ (ah6 hN h0)
   have HB:=h_ hB
   have HX:Hid (m/1000000000*2^(L.length+1)≤x):=h_ (by
    rw[Int.pow_succ]
    have h1:=Int.mul_le_mul_of_nonneg_right (show m/1000000000*2≤m by omega) (Int.le_of_lt (au L.length))
    have h2:m/1000000000*(2^L.length*2)=m/1000000000*2*2^L.length:=by grind
    omega)
   clear hr ho hN hB hx
   go_wp2_with (at_builtin;refine wpList_append_own _ rfl (.tmp 6) (.tmp 10) 59 rfl w.heap.size 2 i0 (.int .i64 0) 1 8 underlying59 hi hz0 hz1 hz2 rfl (by decide) _ L.length (L.map (Value.int .i64)) rfl (HO.out.alloc _) ⟨wr.heap.size,0,none⟩ 1 1 [.int .i64 (m%1000000000)] rfl rfl (by intro t u ht;match t,ht with|0,ht=>simp at ht;subst ht;simp[Addr.add,go_sem]) (by intro u hu;simp at hu;subst hu;rfl) (by unfold maxLen;omega) (by omega) (by have:=HB.out.size;simp;omega) ?_;intro v2 w2 hown2 hgrow2 hnil)
   have hown3:w2.ownsRow w.heap.size 2 1 v2 (L++[m%1000000000]).length ((L++[m%1000000000]).map (Value.int .i64)):=by simpa using hown2
   have Lj:=h_ hown3
   have HB2:Hid (Below w.heap.size w w2):=h_ ((HB.out.alloc HB.out.size _).grown hgrow2 (by have:=HB.out.size;simp;omega) (fun k hk=>by
    obtain⟨_,h2⟩:=HO.out
    rcases h2 with⟨h2,_⟩|⟨g,_,_,h2,hge,_⟩
    ·rw[h2]at hk;cases hk
    ·rw[h2]at hk;cases hk;exact hge))
   clear hown2 hown3 hgrow2 hnil HO HB
   go_wp2_with fail
   go_roundw
   case rel=>exact⟨m/1000000000,L++[m%1000000000],rfl,by omega,by simp;omega,by omega,h_ ⟨Lj.out,HN.out,HB2.out,by simpa using HX.out⟩⟩
   case measure=>simp[intOf]<;>omega
  ·obtain rfl:m=0:=by omega
   have HN:=h_ (And.intro (atc hr.out.1 hr.out.2.1) hr.out.2.2.1)
   obtain⟨bo,lo,co,rfl⟩:=HN.out.1.shape
   clear hr
   go_wp2_with fail
   go_ret
   exact⟨_,rfl,HN.out.1,HN.out.2⟩
end Go.Proofs.YtnapiakfbihnjaaGreatDoor.R
