/-
  The reference's half and odd.
-/
import Derived.Test.YtnapiakfbihnjaaGreatDoorP13
import Derived.Test.YtnapiakfbihnjaaGreatDoorP14
import Derived.Deep.RegionHeld3
set_option linter.unusedVariables false
set_option linter.unusedSimpArgs false
set_option maxRecDepth 1000000
set_option maxHeartbeats 4000000
namespace Go.Proofs.YtnapiakfbihnjaaGreatDoor.R
open Go.RowKit Go.Shelf Tryz
theorem nS(n j:Nat):gd (List.replicate n 0) j=0:=by
 unfold gd
 rw[List.getD_eq_getElem?_getD,List.getElem?_replicate]
 split<;>rfl
theorem dE(zs:List Int)(n:Nat):nv (zs.take (n+1))=nv (zs.take n)+pw^n*gd zs n:=by
 by_cases h:n<zs.length
 ·exact jP zs n h
 ·rw[List.take_of_length_le (by omega),List.take_of_length_le (by omega),iL (by omega)];simp
structure II(g:Nat)(za:List Int)(m:Nat)(w:World)(c:Int)(L:List Int):Prop where
 len:L.length=za.length
 wd:Wd L
 c0:0≤c
 c1:c≤1
 val:2*nv L+c*pw^m=nv za-nv (za.take m)
 low: ∀j,j<m→gd L j=0
 blk:bH w g L
theorem afm{g:Nat}{za:List Int}{m:Nat}{w w2:World}{c:Int}{L:List Int}(hm:m<za.length)(hw:Wd za)(h:II g za (m+1) w c L)(hB:bH w2 g (L.set m ((c*1000000000+gd za m)/2))):
 II g za m w2 ((c*1000000000+gd za m)%2) (L.set m ((c*1000000000+gd za m)/2)):=by
 obtain⟨z0,z1⟩:=aI hw m
 have c0:=h.c0
 have c1:=h.c1
 refine⟨by simp[h.len],jY h.wd ⟨by omega,by show _<(1000000000:Int);omega⟩,by omega,by omega,?_,?_,hB⟩
 ·rw[lV _ _ _ (by rw[h.len];exact hm),h.low m (by omega),Int.sub_zero]
  have hv:=h.val
  rw[dE,Int.pow_succ]at hv
  have e:=Int.mul_ediv_add_emod (c*1000000000+gd za m) 2
  generalize (c*1000000000+gd za m)/2=q at*
  generalize (c*1000000000+gd za m)%2=r at*
  have e2:r=c*pw+gd za m-2*q:=by rw[LC];omega
  rw[e2]
  generalize pw^m=P at*
  grind
 ·intro j hj
  rw[fD (by omega)]
  exact h.low j (by omega)
theorem EY(w:World)(b off cap:Nat)(za:List Int)(x:Int)(ha:Ns w b off cap za x)(hx:x<big):
 Calls prog 224 #[.slice (some ⟨b,off,none⟩) za.length cap] w (bf w (x/2)):=by
 have hl:=ha.len hx
 have hcap:=ha.cap
 have hpos:=ha.pos
 have HLT:=h_ ha.lt
 have H:=h_ ha
 clear ha hx
 obtain⟨l,hl'⟩: ∃l,za.length=l:=⟨_,rfl⟩
 have HL:=h_ hl'
 rw[hl']at hl hcap hpos⊢
 clear hl'
 obtain⟨i0,hi,hz0,hz1,hz2⟩:=info_parts IE
 go_enter func224,ntmps224
 go_wp2_with (at_make;refine wpList_make_full w rfl (.tmp 7) (.tmp 7) 59 rfl w.heap.size 2 i0 (.int .i64 0) 1 underlying59 hi hz0 hz1 .i64 .i64 _ _ l rfl rfl (by omega) (by omega) (by rw[hz2];omega) (by unfold maxLen;omega) (Nat.le_refl _) ?_;intro w1 hown hgrow;have hblk:=h_ (jV hown);have hbel:=h_ (gV hgrow);clear hown hgrow hi hz0 hz1 hz2)
 generalize hg:w.heap.size=g at hblk hbel
 have HG:=h_ hg
 clear hg
 go_loopw [4,5] (fun u v wr=> ∃(m:Nat) (c:Int),m≤l∧0≤c∧c≤1∧u=.int .i64 c∧v=.int .i64 ((m:Int)-1)∧Hid (Below g w wr∧ ∃L,II g za m wr c L)) (fun _ v _=>(intOf v+1).toNat)
 case atStart=>exact⟨l,0,Nat.le_refl _,by omega,by omega,rfl,by go_num,h_ ⟨hbel.out,_,⟨by simp[HL.out],fA _,by omega,by omega,by rw[iU,←HL.out,List.take_length];simp,fun j _=>nS _ j,hblk.out⟩⟩⟩
 case round=>
  obtain⟨m,c,him,c0,c1,rfl,rfl,hr⟩:=hrel
  rcases m with _|m
  ·obtain⟨hbw,L,hL⟩:=hr.out
   have HH:=h_ hL
   have HBw:=h_ hbw
   clear hr hL hbw
   have hcut:=zT g 0 l L wr (by rw[HH.out.len,HL.out];omega) (by rw[HH.out.len,HL.out];exact Nat.le_refl _) HH.out.blk.row
   rw[HH.out.len,HL.out]at hcut
   have HC:=h_ hcut
   clear hcut
   go_wp2_with fail
   refine HC.out.mono ?_
   rintro e w' ⟨rfl,m',hm1,hm2,hm3,rfl⟩
   go_wp2_with fail
   go_ret
   refine⟨_,rfl,?_,by rw[HG.out];exact HBw.out⟩
   have hv:=HH.out.val
   have h0:=HH.out.c0
   have h1:=HH.out.c1
   rw[Int.pow_zero,Int.mul_one,H.out.val]at hv
   simp only[List.take_zero,nv]at hv
   rw[show x/2=nv L by omega]
   exact DC HH.out.blk.row HH.out.blk.typ HH.out.wd (by rw[HH.out.len,HL.out];exact Nat.le_refl _) m' hm1 hm2 hm3
  ·have e:(((m+1:Nat):Int)-1)=(m:Int):=by omega
   rw[e]
   clear e
   obtain⟨hbw,L,hL⟩:=hr.out
   have cA:=(hbw.cell (p:=⟨b,off+m,none⟩) (by have:=HLT.out;have:=HG.out;simp;omega)).trans (H.out.row m (by rw[HL.out];omega))
   have cO:=hL.blk.cell m (by rw[hL.len,HL.out];omega)
   have fO:=hL.blk.frozen m
   have HI:=h_ hL
   have HBw:=h_ hbw
   obtain⟨a0,a1⟩:=aI H.out.wd m
   have HS:Hid (∀w2,bH w2 g (L.set m ((c*1000000000+gd za m)/2))→II g za m w2 ((c*1000000000+gd za m)%2) (L.set m ((c*1000000000+gd za m)/2))):=h_ fun w2 hB=>afm (by rw[HL.out];omega) H.out.wd HI.out hB
   clear hr hL hbw
   generalize gd za m=z at*
   have hw1:IntKind.i64.wrap (c*1000000000)=c*1000000000:=IntWalk.i64_in _ (by omega)
   have hw2:IntKind.i64.wrap (c*1000000000+z)=c*1000000000+z:=IntWalk.i64_in _ (by omega)
   have hd1:Int.tdiv (c*1000000000+z) 2=(c*1000000000+z)/2:=Int.tdiv_eq_ediv_of_nonneg (by omega)
   have hd2:Int.tmod (c*1000000000+z) 2=(c*1000000000+z)%2:=Int.tmod_eq_emod_of_nonneg (by omega)
   have hw3:IntKind.i64.wrap ((c*1000000000+z)/2)=(c*1000000000+z)/2:=IntWalk.i64_in _ (by omega)
   have hw4:IntKind.i64.wrap ((c*1000000000+z)%2)=(c*1000000000+z)%2:=IntWalk.i64_in _ (by omega)
   go_wp2_with fail
   go_roundw
   case rel=>exact⟨m,_,by omega,by omega,by omega,rfl,by go_num,h_ ⟨gQ HBw.out (Nat.le_refl _) _ _,_,HS.out _ (HI.out.blk.set _ _)⟩⟩
   case measure=>simp[intOf]<;>omega
theorem ao5(w:World)(p:Option Addr)(cap:Nat):Calls prog 223 #[.slice p 0 cap] w fun e w'=>e=.returned (.bool false)∧w=w':=by
 go_enter func223,ntmps223
 go_wp2
 go_ret
 exact⟨rfl,rfl⟩
theorem ail(w:World)(b off cap:Nat)(za:List Int)(x:Int)(ha:Ns w b off cap za x)(hx:x<big):
 Calls prog 223 #[.slice (some ⟨b,off,none⟩) za.length cap] w fun e w'=>e=.returned (.bool (decide (x%2=1)))∧w=w':=by
 have hl:=ha.len hx
 have hcap:=ha.cap
 have hpos:=ha.pos
 have cA:=ha.row 0 hpos
 rw[Nat.add_zero]at cA
 obtain⟨z0,z1⟩:=aI ha.wd 0
 have hv:x%2=gd za 0%2:=by
  have:=ha.val
  match za,hpos with
  |z::zs,_=>
   simp only[nv]at this
   rw[kP,←this,LC];omega
 rw[hv]
 clear ha hx hv
 generalize gd za 0=z at*
 generalize za.length=l at*
 have hd2:Int.tmod z 2=z%2:=Int.tmod_eq_emod_of_nonneg (by omega)
 have hw:IntKind.i64.wrap (z%2)=z%2:=IntWalk.i64_in _ (by omega)
 have hb:(z%2==1)=decide (z%2=1):=by
  by_cases h:z%2=1
  ·simp[h]
  ·simp[h]
 go_enter func223,ntmps223
 go_wp2_with fail
 go_ret
 exact⟨rfl,rfl⟩
theorem rV(w:World)(v:Value)(x:Int)(h:Nt w v x)(hx:x<big):Calls prog 223 #[v] w fun e w'=>e=.returned (.bool (decide (x%2=1)))∧w=w':=by
 rcases h with⟨rfl,p,c,rfl,_⟩|⟨b,off,cap,za,rfl,ha⟩
 ·exact ao5 w p c
 ·exact ail w b off cap za x ha hx
structure G7(g:Nat)(za zb:List Int)(i:Nat)(w:World)(L:List Int):Prop where
 len:L.length=za.length+zb.length
 wd:Wd L
 val:nv L=nv (za.take i)*nv zb
 high: ∀j,i+zb.length≤j→gd L j=0
 blk:bH w g L
structure IJ(g:Nat)(za zb:List Int)(i k:Nat)(w:World)(c:Int)(L:List Int):Prop where
 len:L.length=za.length+zb.length
 wd:Wd L
 c0:0≤c
 c1:c<1000000000
 val:nv L+c*pw^(i+k)=nv (za.take i)*nv zb+pw^i*(gd za i*nv (zb.take k))
 high: ∀j,i+zb.length≤j→gd L j=0
 blk:bH w g L
theorem afn{g:Nat}{za zb:List Int}{w:World}(h:bH w g (List.replicate (za.length+zb.length) 0)):G7 g za zb 0 w (List.replicate (za.length+zb.length) 0):=
 ⟨List.length_replicate,fA _,by rw[iU];simp[nv],fun j _=>nS _ j,h⟩
theorem atE{g:Nat}{za zb:List Int}{i:Nat}{w:World}{L:List Int}(h:G7 g za zb i w L):IJ g za zb i 0 w 0 L:=
 ⟨h.len,h.wd,by omega,by omega,by rw[h.val];simp[nv],h.high,h.blk⟩
theorem Xt{g:Nat}{za zb:List Int}{i k:Nat}{w w2:World}{c v:Int}{L:List Int}(hi:i<za.length)(hk:k<zb.length)(h:IJ g za zb i k w c L)(hv:v=c+gd L (i+k)+gd za i*gd zb k)
 (v0:0≤v) (v1:v<1000000000000000000) (hB:bH w2 g (L.set (i+k) (v%1000000000))):IJ g za zb i (k+1) w2 (v/1000000000) (L.set (i+k) (v%1000000000)):=by
 refine⟨by simp[h.len],jY h.wd ⟨by omega,by show _<(1000000000:Int);omega⟩,by omega,by omega,?_,?_,hB⟩
 ·rw[lV _ _ _ (by rw[h.len];omega),dE]
  have hv2:=h.val
  have e:=Int.mul_ediv_add_emod v 1000000000
  generalize v/1000000000=q at*
  generalize v%1000000000=r at*
  have e2:r=v-pw*q:=by rw[LC];omega
  rw[e2,show i+(k+1)=(i+k)+1 by omega,Int.pow_succ,hv]
  rw[Int.pow_add]at*
  generalize pw^i=A at*
  generalize pw^k=B at*
  grind
 ·intro j hj
  rw[fD (by omega)]
  exact h.high j (by omega)
theorem ao6{g:Nat}{za zb:List Int}{i:Nat}{w w2:World}{c:Int}{L:List Int}(hi:i<za.length)(h:IJ g za zb i zb.length w c L)(hB:bH w2 g (L.set (i+zb.length) c)):G7 g za zb (i+1) w2 (L.set (i+zb.length) c):=by
 refine⟨by simp[h.len],jY h.wd ⟨h.c0,h.c1⟩,?_,?_,hB⟩
 ·rw[lV _ _ _ (by rw[h.len];omega),h.high _ (Nat.le_refl _),dE]
  have hv:=h.val
  rw[List.take_length]at hv
  grind
 ·intro j hj
  rw[fD (by omega)]
  exact h.high j (by omega)
structure Dg(w:World)(p:Option Addr)(cap:Nat)(zs:List Int):Prop where
 cap:zs.length≤cap
 wd:Wd zs
 row:zs≠ []→ ∃b off,p=some ⟨b,off,none⟩∧b<w.heap.size∧Row w b off zs
theorem Nt.dg{w:World}{v:Value}{n:Int}(h:Nt w v n): ∃(p:Option Addr) (cap:Nat) (zs:List Int),v=.slice p zs.length cap∧Dg w p cap zs∧nv zs=n∧Can zs:=by
 rcases h with⟨rfl,p,cap,rfl,_⟩|⟨b,off,cap,zs,rfl,h⟩
 ·exact⟨p,cap,[],rfl,⟨Nat.zero_le _,qR,fun h=>absurd rfl h⟩,rfl,fun h=>absurd rfl h⟩
 ·exact⟨_,cap,zs,rfl,⟨h.cap,h.wd,fun _=>⟨b,off,rfl,h.lt,h.row⟩⟩,h.val,h.can⟩
theorem ao7(w:World)(p:Option Addr)(cap:Nat)(za:List Int)(q:Option Addr)(cap2:Nat)(zb:List Int)(ha:Dg w p cap za)(hb:Dg w q cap2 zb)(hl:za.length≤2000)(hl2:zb.length≤2000):
 Calls prog 117 #[.slice p za.length cap,.slice q zb.length cap2] w (bf w (nv za*nv zb)):=by
 have hcap:=ha.cap
 have hcap2:=hb.cap
 have H:=h_ ha
 have H2:=h_ hb
 clear ha hb
 obtain⟨l,hl'⟩: ∃l,za.length=l:=⟨_,rfl⟩
 obtain⟨k,hk'⟩: ∃k,zb.length=k:=⟨_,rfl⟩
 have HL:=h_ hl'
 have HK:=h_ hk'
 rw[hl']at hl hcap⊢
 rw[hk']at hl2 hcap2⊢
 clear hl' hk'
 obtain⟨i0,hi,hz0,hz1,hz2⟩:=info_parts IE
 go_enter func117,ntmps117
 go_wp2_with (at_make;refine wpList_make_full w rfl (.tmp 13) (.tmp 13) 59 rfl w.heap.size 2 i0 (.int .i64 0) 1 underlying59 hi hz0 hz1 .i64 .i64 _ _ (l+k) rfl rfl (by omega) (by omega) (by rw[hz2];omega) (by unfold maxLen;omega) (Nat.le_refl _) ?_;intro w1 hown hgrow;have hblk:=h_ (jV hown);have hbel:=h_ (gV hgrow);clear hown hgrow hi hz0 hz1 hz2)
 generalize hg:w.heap.size=g at hblk hbel
 have HG:=h_ hg
 clear hg
 go_loopw [6] (fun v wr=> ∃(i:Nat),i≤l∧v=.int .i64 i∧Hid (Below g w wr∧ ∃L,G7 g za zb i wr L)) (fun v _=>l-(intOf v).toNat)
 case atStart=>exact⟨0,Nat.zero_le _,rfl,h_ ⟨hbel.out,_,by have:=afn (za:=za) (zb:=zb) (g:=g) (w:=w1) (by rw[HL.out,HK.out];exact hblk.out);exact this⟩⟩
 case round=>
  obtain⟨i,him,rfl,hr⟩:=hrel
  by_cases hlt:i<l
  ·go_wp2_with fail
   go_loopw [7,8] (fun u v wr2=> ∃(kk:Nat) (c:Int),kk≤k∧0≤c∧c<1000000000∧u=.int .i64 c∧v=.int .i64 kk∧Hid (Below g w wr2∧ ∃L,IJ g za zb i kk wr2 c L)) (fun _ v _=>k-(intOf v).toNat)
   case atStart=>exact⟨0,0,Nat.zero_le _,by omega,by omega,rfl,rfl,h_ (by obtain⟨hbw,L,hL⟩:=hr.out;exact⟨hbw,L,atE hL⟩)⟩
   case round=>
    obtain⟨kk,c,hkk,c0,c1,rfl,rfl,hr2⟩:=hrel
    by_cases hlt2:kk<k
    ·obtain⟨hbw,L,hL⟩:=hr2.out
     obtain⟨b,off,rfl,hb,hrow⟩:=H.out.row (by intro e;rw[e]at HL;have:=HL.out;simp at this;omega)
     obtain⟨b2,aX,rfl,hb2,hrow2⟩:=H2.out.row (by intro e;rw[e]at HK;have:=HK.out;simp at this;omega)
     have cA:=(hbw.cell (p:=⟨b,off+i,none⟩) (by have:=HG.out;simp;omega)).trans (hrow i (by rw[HL.out];omega))
     have cB:=(hbw.cell (p:=⟨b2,aX+kk,none⟩) (by have:=HG.out;simp;omega)).trans (hrow2 kk (by rw[HK.out];omega))
     have cO:=hL.blk.cell (i+kk) (by rw[hL.len,HL.out,HK.out];omega)
     have fO:=hL.blk.frozen (i+kk)
     have HI:=h_ hL
     have HBw:=h_ hbw
     obtain⟨a0,a1⟩:=aI H.out.wd i
     obtain⟨b0,b1⟩:=aI H2.out.wd kk
     obtain⟨o0,o1⟩:=aI hL.wd (i+kk)
     have m0:=Int.mul_nonneg a0 b0
     have m1:=Int.mul_le_mul (show gd za i≤999999999 by omega) (show gd zb kk≤999999999 by omega) b0 (by omega)
     have HS:Hid (∀w2,bH w2 g (L.set (i+kk) ((c+gd L (i+kk)+gd za i*gd zb kk)%1000000000))→IJ g za zb i (kk+1) w2 ((c+gd L (i+kk)+gd za i*gd zb kk)/1000000000) (L.set (i+kk) ((c+gd L (i+kk)+gd za i*gd zb kk)%1000000000))):=h_ fun w2 hB=>
      Xt (by rw[HL.out];omega) (by rw[HK.out];omega) HI.out rfl (by omega) (by omega) hB
     clear hr hr2 hL hbw hb hb2 hrow hrow2
     generalize gd L (i+kk)=o at*
     generalize hx:gd za i=x at*
     generalize hy:gd zb kk=y at*
     clear hx hy
     have hw1:IntKind.i64.wrap (c+o)=c+o:=IntWalk.i64_in _ (by omega)
     have hw2:IntKind.i64.wrap (x*y)=x*y:=IntWalk.i64_in _ (by omega)
     have hw3:IntKind.i64.wrap (c+o+x*y)=c+o+x*y:=IntWalk.i64_in _ (by omega)
     have hd1:Int.tdiv (c+o+x*y) 1000000000=(c+o+x*y)/1000000000:=Int.tdiv_eq_ediv_of_nonneg (by omega)
     have hd2:Int.tmod (c+o+x*y) 1000000000=(c+o+x*y)%1000000000:=Int.tmod_eq_emod_of_nonneg (by omega)
     have hw4:IntKind.i64.wrap ((c+o+x*y)/1000000000)=(c+o+x*y)/1000000000:=IntWalk.i64_in _ (by omega)
     have hw5:IntKind.i64.wrap ((c+o+x*y)%1000000000)=(c+o+x*y)%1000000000:=IntWalk.i64_in _ (by omega)
     go_wp2_with fail
     go_quiet (fail)
     go_wp2_with fail
     go_roundw
     case rel=>exact⟨kk+1,_,by omega,by omega,by omega,rfl,by go_num,h_ ⟨gQ (HBw.out.trans ((aY.step wr nq).below _)) (Nat.le_refl _) _ _,_,HS.out _ ((HI.out.blk.Dp (aY.step wr nq)).set _ _)⟩⟩
     case measure=>simp[intOf]<;>omega
    ·have hie:kk=k:=by omega
     subst hie
     clear hlt2 hkk
     obtain⟨hbw,L,hL⟩:=hr2.out
     have cO:=hL.blk.cell (i+kk) (by rw[hL.len,HL.out,HK.out];omega)
     have fO:=hL.blk.frozen (i+kk)
     have HI:=h_ hL
     have HBw:=h_ hbw
     have HS:Hid (∀w2,bH w2 g (L.set (i+kk) c)→G7 g za zb (i+1) w2 (L.set (i+kk) c)):=h_ fun w2 hB=>by
      have h:=HI.out
      rw[←HK.out]at h hB⊢
      exact ao6 (by rw[HL.out];omega) h hB
     clear hr hr2 hL hbw
     go_wp2_with fail
     go_roundw
     case rel=>exact⟨i+1,by omega,by go_num,h_ ⟨gQ HBw.out (Nat.le_refl _) _ _,_,HS.out _ (HI.out.blk.set _ _)⟩⟩
     case measure=>simp[intOf]<;>omega
  ·have hie:i=l:=by omega
   subst hie
   clear hlt him
   obtain⟨hbw,L,hL⟩:=hr.out
   have HH:=h_ hL
   have HBw:=h_ hbw
   clear hr hL hbw
   have hcut:=zT g 0 (i+k) L wr (by rw[HH.out.len,HL.out,HK.out];omega) (by rw[HH.out.len,HL.out,HK.out];exact Nat.le_refl _) HH.out.blk.row
   rw[HH.out.len,HL.out,HK.out]at hcut
   have HC:=h_ hcut
   clear hcut
   go_wp2_with fail
   refine HC.out.mono ?_
   rintro e w' ⟨rfl,m',hm1,hm2,hm3,rfl⟩
   go_wp2_with fail
   go_ret
   refine⟨_,rfl,?_,by rw[HG.out];exact HBw.out⟩
   have hv:=HH.out.val
   rw[show za.take i=za by rw[←HL.out,List.take_length]]at hv
   rw[←hv]
   exact DC HH.out.blk.row HH.out.blk.typ HH.out.wd (by rw[HH.out.len,HL.out,HK.out];exact Nat.le_refl _) m' hm1 hm2 hm3
theorem kJ(w:World)(va vb:Value)(x y:Int)(ha:Nt w va x)(hb:Nt w vb y)(hx:x<big)(hy:y<big):
 Calls prog 117 #[va,vb] w (bf w (x*y)):=by
 obtain⟨p,cap,za,rfl,da,rfl,ca⟩:=ha.dg
 obtain⟨q,cap2,zb,rfl,db,rfl,cb⟩:=hb.dg
 exact ao7 w p cap za q cap2 zb da db (iI da.wd ca rfl hx) (iI db.wd cb rfl hy)
def zZ(w:World)(base g cap:Nat)(L:List Int):Prop:=w.ownsRow base 2 1 (.slice (some ⟨g,0,none⟩) L.length cap) L.length (L.map (Value.int .i64))
theorem zZ.row{w:World}{base g cap:Nat}{L:List Int}(h:zZ w base g cap L):Row w g 0 L∧Typ w g∧L.length≤cap:=by
 refine⟨fun i hi=>?_,?_,?_⟩
 ·have:=World.ownsRow.cells h (g:=g) rfl i (.int .i64 (gd L i)) (by rw[List.getElem?_map,List.getElem?_eq_getElem hi,gK hi];rfl)
  simp only[Addr.add]at this
  by_cases h0:i=0
  ·subst h0;simpa using this
  ·simpa [h0]using this
 ·obtain⟨_,h2⟩:=h
  rcases h2 with⟨h',_⟩|⟨g',cap',cur,h',_,hh,h3,_⟩
  ·cases h'
  ·injection h' with h7 h8 h9
   injection h7 with h7
   injection h7 with h7
   subst h7
   exact⟨_,_,hh⟩
 ·obtain⟨_,h2⟩:=h
  rcases h2 with⟨h',_⟩|⟨g',cap',cur,h',_,_,h3,_⟩
  ·cases h'
  ·injection h' with h7 h8 h9
   omega
theorem IC(L:List Int)(d:Int):nv (L++[d])=nv L+pw^L.length*d:=by
 rw[mi];simp[nv]
theorem qZ{w1:World}{base g cap i:Nat}{L:List Int}{D:Int}(h:w1.ownsRow base 2 1 (.slice (some ⟨g,0,none⟩) (i+1) cap) (i+1) (L.map (Value.int .i64)++[.int .i64 D]))(hl:L.length=i):zZ w1 base g cap (L++[D]):=by
 unfold zZ;simpa [hl]using h
structure Ae(za zb:List Int)(i:Nat)(c:Int)(L:List Int):Prop where
 len:L.length=i
 wd:Wd L
 c0:0≤c
 c1:c≤1
 val:nv L=nv (za.take i)-nv (zb.take i)+c*pw^i
theorem ain{za zb:List Int}{i:Nat}{c:Int}{L:List Int}(ha:Wd za)(hb:Wd zb)(h:Ae za zb i c L):
 Ae za zb (i+1) (if gd za i-c-gd zb i<0 then 1 else 0) (L++[if gd za i-c-gd zb i<0 then gd za i-c-gd zb i+1000000000 else gd za i-c-gd zb i]):=by
 obtain⟨a0,a1⟩:=aI ha i
 obtain⟨b0,b1⟩:=aI hb i
 have c0:=h.c0
 have c1:=h.c1
 refine⟨by simp[h.len],oL.2 ⟨h.wd,oI.2 ⟨?_,qR⟩⟩,by split<;>omega,by split<;>omega,?_⟩
 ·show _∧_<(1000000000:Int)
  split<;>omega
 ·rw[IC,h.val,h.len,dE,dE,Int.pow_succ]
  have e:pw=1000000000:=rfl
  generalize hp:pw^i=A
  rw[e]
  split<;>grind
theorem ao8(w:World)(p:Option Addr)(cap:Nat)(za:List Int)(q:Option Addr)(cap2:Nat)(zb:List Int)(ha:Dg w p cap za)(hb:Dg w q cap2 zb)(hl:za.length≤2000)(hl2:zb.length≤za.length)(hle:nv zb≤nv za):
 Calls prog 121 #[.slice p za.length cap,.slice q zb.length cap2] w (bf w (nv za-nv zb)):=by
 have hcap:=ha.cap
 have hcap2:=hb.cap
 have H:=h_ ha
 have H2:=h_ hb
 have HLE:=h_ hle
 clear ha hb hle
 obtain⟨l,hl'⟩: ∃l,za.length=l:=⟨_,rfl⟩
 obtain⟨k,hk'⟩: ∃k,zb.length=k:=⟨_,rfl⟩
 have HL:=h_ hl'
 have HK:=h_ hk'
 rw[hl']at hl hl2 hcap⊢
 rw[hk']at hl2 hcap2⊢
 clear hl' hk'
 obtain⟨i0,hi,hz0,hz1,hz2⟩:=info_parts IE
 go_enter func121,ntmps121
 go_wp2_with (at_make;refine wpList_make_own _ rfl _ _ 59 rfl w.heap.size 2 i0 (.int .i64 0) 1 underlying59 hi hz0 hz1 _ _ _ l rfl rfl rfl ?b2 ?b3 (Nat.le_refl _) ?_)
 case b2=>rw[hz2];omega
 case b3=>unfold maxLen;omega
 intro w0 hown0 hgrow0
 generalize hg:w.heap.size=g at hown0
 have HG:=h_ hg
 have HB0:=h_ (gV hgrow0)
 rw[hg]at HB0
 clear hg hgrow0
 have HO:Hid (zZ w0 g g l []):=h_ hown0
 clear hown0
 go_wp2_with fail
 go_loopw [5,6,7] (fun out u v wr=> ∃(i:Nat) (c:Int) (L:List Int),i≤l∧0≤c∧c≤1∧out=.slice (some ⟨g,0,none⟩) i l∧u=.int .i64 c∧v=.int .i64 i∧Hid (Below g w wr∧zZ wr g g l L∧Ae za zb i c L)) (fun _ _ v _=>l-(intOf v).toNat)
 case atStart=>exact⟨0,0,[],Nat.zero_le _,by omega,by omega,rfl,rfl,rfl,h_ ⟨HB0.out,HO.out,⟨rfl,qR,by omega,by omega,by simp[nv]⟩⟩⟩
 case round=>
  obtain⟨i,c,L,him,c0,c1,rfl,rfl,rfl,hr⟩:=hrel
  by_cases hlt:i<l
  ·obtain⟨b,off,rfl,hb,hrow⟩:=H.out.row (by intro e;rw[e]at HL;have:=HL.out;simp at this;omega)
   have cA:=(hr.out.1.cell (p:=⟨b,off+i,none⟩) (by have:=HG.out;simp;omega)).trans (hrow i (by rw[HL.out];omega))
   obtain⟨a0,a1⟩:=aI H.out.wd i
   obtain⟨b0,b1⟩:=aI H2.out.wd i
   have HLn:Hid (L.length=i):=h_ hr.out.2.2.len
   have HS:=h_ (ain H.out.wd H2.out.wd hr.out.2.2)
   have HBw:=h_ hr.out.1
   have HOw:Hid (wr.ownsRow g 2 1 (.slice (some ⟨g,0,none⟩) i l) i (L.map (Value.int .i64))):=h_ (by have h:=hr.out.2.1;unfold zZ at h;rwa [HLn.out]at h)
   by_cases hk:i<k
   case' pos=>
    obtain⟨b2,aX,rfl,hb2,hrow2⟩:=H2.out.row (by intro e;rw[e]at HK;have:=HK.out;simp at this;omega)
    have cB:=(hr.out.1.cell (p:=⟨b2,aX+i,none⟩) (by have:=HG.out;simp;omega)).trans (hrow2 i (by rw[HK.out];omega))
    clear hb2 hrow2
   case' neg=>
    have hz:gd zb i=0:=iL (by rw[HK.out];omega)
    rw[hz]at HS
    clear hz
   all_goals
    clear hr hb hrow
    generalize gd za i=x at*
    try generalize gd zb i=y at*
   ·have hw1:IntKind.i64.wrap (x-c)=x-c:=IntWalk.i64_in _ (by omega)
    skip
    by_cases hneg:x-c<0
    ·have hw3:IntKind.i64.wrap (x-c+1000000000)=x-c+1000000000:=IntWalk.i64_in _ (by omega)
     all_goals skip
     ·have HS':Hid (Ae za zb (i+1) 1 (L++[x-c+1000000000])):=h_ (by have h:=HS.out;rw[show x-c-0=x-c by omega]at h;rwa [if_pos hneg,if_pos hneg]at h)
      clear HS
      go_wp2_with (at_builtin;refine wpList_append_fits _ rfl (.tmp 38) (.tmp 40) 59 rfl g 2 i0 1 underlying59 hi hz1 g i l (L.map (Value.int .i64)) rfl (HOw.out.alloc _) ⟨wr.heap.size,0,none⟩ 1 1 [.int .i64 (x-c+1000000000)] rfl rfl (by intro t u ht;match t,ht with|0,ht=>simp at ht;subst ht;simp[Addr.add,go_sem]) (by intro u hu;simp at hu;subst hu;rfl) (by omega) ?_;intro w1 hown1 hgrow1)
      go_roundw
      case rel=>exact⟨i+1,1,L++[x-c+1000000000],by omega,by omega,by omega,rfl,rfl,by go_num,h_ ⟨(HBw.out.alloc (by have:=HBw.out.size;have:=HG.out;omega) _).grown hgrow1 (by have:=HBw.out.size;have:=HG.out;simp;omega) (fun _ hk=>by cases hk;exact Nat.le_refl _),qZ hown1 HLn.out,HS'.out⟩⟩
      case measure=>simp[intOf]<;>omega
    ·skip
     ·have HS':Hid (Ae za zb (i+1) 0 (L++[x-c])):=h_ (by have h:=HS.out;rw[show x-c-0=x-c by omega]at h;rwa [if_neg hneg,if_neg hneg]at h)
      clear HS
      go_wp2_with (at_builtin;refine wpList_append_fits _ rfl (.tmp 38) (.tmp 40) 59 rfl g 2 i0 1 underlying59 hi hz1 g i l (L.map (Value.int .i64)) rfl (HOw.out.alloc _) ⟨wr.heap.size,0,none⟩ 1 1 [.int .i64 (x-c)] rfl rfl (by intro t u ht;match t,ht with|0,ht=>simp at ht;subst ht;simp[Addr.add,go_sem]) (by intro u hu;simp at hu;subst hu;rfl) (by omega) ?_;intro w1 hown1 hgrow1)
      go_roundw
      case rel=>exact⟨i+1,0,L++[x-c],by omega,by omega,by omega,rfl,rfl,by go_num,h_ ⟨(HBw.out.alloc (by have:=HBw.out.size;have:=HG.out;omega) _).grown hgrow1 (by have:=HBw.out.size;have:=HG.out;simp;omega) (fun _ hk=>by cases hk;exact Nat.le_refl _),qZ hown1 HLn.out,HS'.out⟩⟩
      case measure=>simp[intOf]<;>omega
   ·have hw1:IntKind.i64.wrap (x-c)=x-c:=IntWalk.i64_in _ (by omega)
    have hw2:IntKind.i64.wrap (x-c-y)=x-c-y:=IntWalk.i64_in _ (by omega)
    by_cases hneg:x-c-y<0
    ·have hw3:IntKind.i64.wrap (x-c-y+1000000000)=x-c-y+1000000000:=IntWalk.i64_in _ (by omega)
     all_goals skip
     ·have HS':Hid (Ae za zb (i+1) 1 (L++[x-c-y+1000000000])):=h_ (by have h:=HS.out;rwa [if_pos hneg,if_pos hneg]at h)
      clear HS
      go_wp2_with (at_builtin;refine wpList_append_fits _ rfl (.tmp 38) (.tmp 40) 59 rfl g 2 i0 1 underlying59 hi hz1 g i l (L.map (Value.int .i64)) rfl (HOw.out.alloc _) ⟨wr.heap.size,0,none⟩ 1 1 [.int .i64 (x-c-y+1000000000)] rfl rfl (by intro t u ht;match t,ht with|0,ht=>simp at ht;subst ht;simp[Addr.add,go_sem]) (by intro u hu;simp at hu;subst hu;rfl) (by omega) ?_;intro w1 hown1 hgrow1)
      go_roundw
      case rel=>exact⟨i+1,1,L++[x-c-y+1000000000],by omega,by omega,by omega,rfl,rfl,by go_num,h_ ⟨(HBw.out.alloc (by have:=HBw.out.size;have:=HG.out;omega) _).grown hgrow1 (by have:=HBw.out.size;have:=HG.out;simp;omega) (fun _ hk=>by cases hk;exact Nat.le_refl _),qZ hown1 HLn.out,HS'.out⟩⟩
      case measure=>simp[intOf]<;>omega
    ·skip
     ·have HS':Hid (Ae za zb (i+1) 0 (L++[x-c-y])):=h_ (by have h:=HS.out;rwa [if_neg hneg,if_neg hneg]at h)
      clear HS
      go_wp2_with (at_builtin;refine wpList_append_fits _ rfl (.tmp 38) (.tmp 40) 59 rfl g 2 i0 1 underlying59 hi hz1 g i l (L.map (Value.int .i64)) rfl (HOw.out.alloc _) ⟨wr.heap.size,0,none⟩ 1 1 [.int .i64 (x-c-y)] rfl rfl (by intro t u ht;match t,ht with|0,ht=>simp at ht;subst ht;simp[Addr.add,go_sem]) (by intro u hu;simp at hu;subst hu;rfl) (by omega) ?_;intro w1 hown1 hgrow1)
      go_roundw
      case rel=>exact⟨i+1,0,L++[x-c-y],by omega,by omega,by omega,rfl,rfl,by go_num,h_ ⟨(HBw.out.alloc (by have:=HBw.out.size;have:=HG.out;omega) _).grown hgrow1 (by have:=HBw.out.size;have:=HG.out;simp;omega) (fun _ hk=>by cases hk;exact Nat.le_refl _),qZ hown1 HLn.out,HS'.out⟩⟩
      case measure=>simp[intOf]<;>omega
  ·have hie:i=l:=by omega
   subst hie
   clear hlt him
   have HBw:=h_ hr.out.1
   have HOw:=h_ hr.out.2.1.row
   have HI:=h_ hr.out.2.2
   clear hr
   have hcut:=zT g 0 i L wr (by rw[HI.out.len];omega) (by rw[HI.out.len];exact Nat.le_refl _) HOw.out.1
   rw[HI.out.len]at hcut
   have HC:=h_ hcut
   clear hcut
   go_wp2_with fail
   refine HC.out.mono ?_
   rintro e w' ⟨rfl,m',hm1,hm2,hm3,rfl⟩
   go_wp2_with fail
   go_ret
   refine⟨_,rfl,?_,by rw[HG.out];exact HBw.out⟩
   have hv:=HI.out.val
   rw[show za.take i=za by rw[←HL.out,List.take_length],List.take_of_length_le (by rw[HK.out];omega)]at hv
   have hlt:=jb HI.out.wd
   rw[HI.out.len]at hlt
   have hle:=HLE.out
   have hc:c=0:=by
    rcases(show c=0∨c=1 by omega)with h|h
    ·exact h
    ·rw[h]at hv;omega
   rw[hc,Int.zero_mul,Int.add_zero]at hv
   rw[←hv]
   exact DC HOw.out.1 HOw.out.2.1 HI.out.wd (by rw[HI.out.len];exact Nat.le_refl _) m' hm1 hm2 hm3
theorem atG{L:List Int}(hw:Wd L)(hne:L≠ [])(h:pw^(L.length-1)≤nv L):gd L (L.length-1)≠0:=by
 intro h0
 have hl:0<L.length:=List.length_pos_iff.2 hne
 have h1:=dE L (L.length-1)
 rw[show L.length-1+1=L.length by omega,List.take_length,h0,Int.mul_zero,Int.add_zero]at h1
 have h2:=jb (eP hw (L.length-1))
 rw[List.length_take,Nat.min_eq_left (by omega)]at h2
 omega
structure Af(za zb:List Int)(i:Nat)(c:Int)(L:List Int):Prop where
 len:L.length=i
 wd:Wd L
 c0:0≤c
 c1:c≤1
 val:nv L+c*pw^i=nv (za.take i)+nv (zb.take i)
 top:i≤max za.length zb.length∨pw^(i-1)≤nv L
theorem aio{za zb:List Int}{i:Nat}{c:Int}{L:List Int}(ha:Wd za)(hb:Wd zb)(h:Af za zb i c L)(hi:i<max za.length zb.length∨c=1):
 Af za zb (i+1) ((c+gd za i+gd zb i)/1000000000) (L++[(c+gd za i+gd zb i)%1000000000]):=by
 obtain⟨a0,a1⟩:=aI ha i
 obtain⟨b0,b1⟩:=aI hb i
 have c0:=h.c0
 have c1:=h.c1
 have hval:nv (L++[(c+gd za i+gd zb i)%1000000000])+(c+gd za i+gd zb i)/1000000000*pw^(i+1)=nv (za.take (i+1))+nv (zb.take (i+1)):=by
  rw[IC,h.len,dE,dE,Int.pow_succ]
  have hv:=h.val
  have e:=Int.mul_ediv_add_emod (c+gd za i+gd zb i) 1000000000
  generalize (c+gd za i+gd zb i)/1000000000=q at*
  generalize hr:(c+gd za i+gd zb i)%1000000000=r at*
  have e2:r=c+gd za i+gd zb i-pw*q:=by rw[LC];omega
  rw[e2]
  generalize pw^i=A at*
  grind
 refine⟨by simp[h.len],oL.2 ⟨h.wd,oI.2 ⟨?_,qR⟩⟩,by omega,by omega,hval,?_⟩
 ·show _∧_<(1000000000:Int)
  omega
 ·rcases(show i<max za.length zb.length∨(max za.length zb.length≤i∧c=1)by omega)with hi|⟨hi,hc⟩
  ·left;omega
  ·right
   have e1:gd za i=0:=iL (by omega)
   have e2:gd zb i=0:=iL (by omega)
   have hn:=dw h.wd
   rw[e1,e2,hc,IC,h.len,show i+1-1=i by omega]
   have:pw^i*((1+0+0)%1000000000)=pw^i:=by
    rw[show((1+0+0:Int)%1000000000)=1 from rfl,Int.mul_one]
   omega
theorem ao9(w:World)(p:Option Addr)(cap:Nat)(za:List Int)(q:Option Addr)(cap2:Nat)(zb:List Int)(ha:Dg w p cap za)(hb:Dg w q cap2 zb)(hl:za.length≤2000)(hl2:zb.length≤2000)(ca:Can za)(cb:Can zb):
 Calls prog 120 #[.slice p za.length cap,.slice q zb.length cap2] w (bf w (nv za+nv zb)):=by
 have hcap:=ha.cap
 have hcap2:=hb.cap
 have H:=h_ ha
 have H2:=h_ hb
 have HC:=h_ (And.intro ca cb)
 clear ha hb ca cb
 obtain⟨l,hl'⟩: ∃l,za.length=l:=⟨_,rfl⟩
 obtain⟨k,hk'⟩: ∃k,zb.length=k:=⟨_,rfl⟩
 have HL:=h_ hl'
 have HK:=h_ hk'
 rw[hl']at hl hcap⊢
 rw[hk']at hl2 hcap2⊢
 clear hl' hk'
 obtain⟨n,hn⟩: ∃n,max l k=n:=⟨_,rfl⟩
 have hmx:max (l:Int) (k:Int)=(n:Int):=by omega
 have hw0:IntKind.i64.wrap ((n:Int)+1)=((n+1:Nat):Int):=IntWalk.i64_in _ (by omega)
 obtain⟨i0,hi,hz0,hz1,hz2⟩:=info_parts IE
 go_enter func120,ntmps120
 go_wp2_with (at_make;refine wpList_make_own _ rfl _ _ 59 rfl w.heap.size 2 i0 (.int .i64 0) 1 underlying59 hi hz0 hz1 _ _ _ (n+1) rfl rfl (by omega) ?b2 ?b3 (Nat.le_refl _) ?_)
 case b2=>rw[hz2];omega
 case b3=>unfold maxLen;omega
 intro w0 hown0 hgrow0
 generalize hg:w.heap.size=g at hown0
 have HG:=h_ hg
 have HB0:=h_ (gV hgrow0)
 rw[hg]at HB0
 clear hg hgrow0 hmx hw0
 have HO:Hid (zZ w0 g g (n+1) []):=h_ hown0
 clear hown0
 go_wp2_with fail
 go_loopw [5,6,7] (fun out u v wr=> ∃(i:Nat) (c:Int) (L:List Int),i≤n+1∧0≤c∧c≤1∧out=.slice (some ⟨g,0,none⟩) i (n+1)∧u=.int .i64 c∧v=.int .i64 i∧Hid (Below g w wr∧zZ wr g g (n+1) L∧Af za zb i c L)) (fun _ _ v _=>n+1-(intOf v).toNat)
 case atStart=>exact⟨0,0,[],Nat.zero_le _,by omega,by omega,rfl,rfl,rfl,h_ ⟨HB0.out,HO.out,⟨rfl,qR,by omega,by omega,by simp[nv],.inl (Nat.zero_le _)⟩⟩⟩
 case round=>
  obtain⟨i,c,L,him,c0,c1,rfl,rfl,rfl,hr⟩:=hrel
  by_cases hgo:i<n∨c=1
  ·have hin:i≤n:=by
    rcases hgo with h|h
    ·omega
    ·apply Classical.byContradiction
     intro hc
     obtain rfl:i=n+1:=by omega
     have hv:=hr.out.2.2.val
     have h1:=dw hr.out.2.2.wd
     have h2:=jb (eP H.out.wd (n+1))
     have h3:=jb (eP H2.out.wd (n+1))
     have h4:pw^(za.take (n+1)).length≤pw^n:=bT (by rw[List.length_take,HL.out];omega)
     have h5:pw^(zb.take (n+1)).length≤pw^n:=bT (by rw[List.length_take,HK.out];omega)
     rw[h,Int.one_mul,Int.pow_succ,show pw=1000000000 from rfl]at hv
     rw[show pw=1000000000 from rfl]at h4 h5
     have h6:=ji n
     rw[show pw=1000000000 from rfl]at h6 h2 h3
     omega
   obtain⟨a0,a1⟩:=aI H.out.wd i
   obtain⟨b0,b1⟩:=aI H2.out.wd i
   have HLn:Hid (L.length=i):=h_ hr.out.2.2.len
   have HS:=h_ (aio H.out.wd H2.out.wd hr.out.2.2 (by rw[HL.out,HK.out];omega))
   have HBw:=h_ hr.out.1
   have HOw:Hid (wr.ownsRow g 2 1 (.slice (some ⟨g,0,none⟩) i (n+1)) i (L.map (Value.int .i64))):=h_ (by have h:=hr.out.2.1;unfold zZ at h;rwa [HLn.out]at h)
   have hx0: ¬i<l→gd za i=0:=fun h=>iL (by rw[HL.out];omega)
   have hy0: ¬i<k→gd zb i=0:=fun h=>iL (by rw[HK.out];omega)
   have CA:Hid (i<l→ ∃b off,p=some ⟨b,off,none⟩∧wr.cell? ⟨b,off+i,none⟩=some (.int .i64 (gd za i))):=h_ fun h=>by
    obtain⟨b,off,rfl,hb,hrow⟩:=H.out.row (by intro e;rw[e]at HL;have:=HL.out;simp at this;omega)
    exact⟨b,off,rfl,(hr.out.1.cell (p:=⟨b,off+i,none⟩) (by have:=HG.out;simp;omega)).trans (hrow i (by rw[HL.out];omega))⟩
   have CB:Hid (i<k→ ∃b off,q=some ⟨b,off,none⟩∧wr.cell? ⟨b,off+i,none⟩=some (.int .i64 (gd zb i))):=h_ fun h=>by
    obtain⟨b,off,rfl,hb,hrow⟩:=H2.out.row (by intro e;rw[e]at HK;have:=HK.out;simp at this;omega)
    exact⟨b,off,rfl,(hr.out.1.cell (p:=⟨b,off+i,none⟩) (by have:=HG.out;simp;omega)).trans (hrow i (by rw[HK.out];omega))⟩
   clear hr
   generalize gd za i=x at*
   generalize gd zb i=y at*
   by_cases h1:i<l
   ·obtain⟨b,off,hp,cA⟩:=CA.out h1
    have HPp:=h_ H.out
    clear H CA hx0
    subst hp
    by_cases h2:i<k
    ·obtain⟨b2,aX,hp2,cB⟩:=CB.out h2
     clear H2 CB hy0 HPp
     subst hp2
     have hw1:IntKind.i64.wrap (c+x)=c+x:=IntWalk.i64_in _ (by omega)
     have hw2:IntKind.i64.wrap (c+x+y)=c+x+y:=IntWalk.i64_in _ (by omega)
     have hd1:Int.tdiv (c+x+y) 1000000000=(c+x+y)/1000000000:=Int.tdiv_eq_ediv_of_nonneg (by omega)
     have hd2:Int.tmod (c+x+y) 1000000000=(c+x+y)%1000000000:=Int.tmod_eq_emod_of_nonneg (by omega)
     have hw3:IntKind.i64.wrap ((c+x+y)/1000000000)=(c+x+y)/1000000000:=IntWalk.i64_in _ (by omega)
     have hw4:IntKind.i64.wrap ((c+x+y)%1000000000)=(c+x+y)%1000000000:=IntWalk.i64_in _ (by omega)
     have HS':Hid (Af za zb (i+1) ((c+x+y)/1000000000) (L++[(c+x+y)%1000000000])):=h_ (by have h:=HS.out;rwa [show c+x+y=c+x+y by omega]at h)
     clear HS
     go_wp2_with (at_builtin;refine wpList_append_fits _ rfl (.tmp 51) (.tmp 54) 59 rfl g 2 i0 1 underlying59 hi hz1 g i (n+1) (L.map (Value.int .i64)) rfl (HOw.out.alloc _) ⟨wr.heap.size,0,none⟩ 1 1 [.int .i64 ((c+x+y)%1000000000)] rfl rfl (by intro t u ht;match t,ht with|0,ht=>simp at ht;subst ht;simp[Addr.add,go_sem]) (by intro u hu;simp at hu;subst hu;rfl) (by omega) ?_;intro w1 hown1 hgrow1)
     go_roundw
     case rel=>exact⟨i+1,_,L++[(c+x+y)%1000000000],by omega,by omega,by omega,rfl,rfl,by go_num,h_ ⟨(HBw.out.alloc (by have:=HBw.out.size;have:=HG.out;omega) _).grown hgrow1 (by have:=HBw.out.size;have:=HG.out;simp;omega) (fun _ hk=>by cases hk;exact Nat.le_refl _),qZ hown1 HLn.out,HS'.out⟩⟩
     case measure=>simp[intOf]<;>omega
    ·have hz:=hy0 h2
     subst hz
     clear hy0 CB
     have hw1:IntKind.i64.wrap (c+x)=c+x:=IntWalk.i64_in _ (by omega)
     have hd1:Int.tdiv (c+x) 1000000000=(c+x)/1000000000:=Int.tdiv_eq_ediv_of_nonneg (by omega)
     have hd2:Int.tmod (c+x) 1000000000=(c+x)%1000000000:=Int.tmod_eq_emod_of_nonneg (by omega)
     have hw3:IntKind.i64.wrap ((c+x)/1000000000)=(c+x)/1000000000:=IntWalk.i64_in _ (by omega)
     have hw4:IntKind.i64.wrap ((c+x)%1000000000)=(c+x)%1000000000:=IntWalk.i64_in _ (by omega)
     have HS':Hid (Af za zb (i+1) ((c+x)/1000000000) (L++[(c+x)%1000000000])):=h_ (by have h:=HS.out;rwa [show c+x+0=c+x by omega]at h)
     clear HS
     go_wp2_with (at_builtin;refine wpList_append_fits _ rfl (.tmp 51) (.tmp 54) 59 rfl g 2 i0 1 underlying59 hi hz1 g i (n+1) (L.map (Value.int .i64)) rfl (HOw.out.alloc _) ⟨wr.heap.size,0,none⟩ 1 1 [.int .i64 ((c+x)%1000000000)] rfl rfl (by intro t u ht;match t,ht with|0,ht=>simp at ht;subst ht;simp[Addr.add,go_sem]) (by intro u hu;simp at hu;subst hu;rfl) (by omega) ?_;intro w1 hown1 hgrow1)
     go_roundw
     case rel=>exact⟨i+1,_,L++[(c+x)%1000000000],by omega,by omega,by omega,rfl,rfl,by go_num,h_ ⟨(HBw.out.alloc (by have:=HBw.out.size;have:=HG.out;omega) _).grown hgrow1 (by have:=HBw.out.size;have:=HG.out;simp;omega) (fun _ hk=>by cases hk;exact Nat.le_refl _),qZ hown1 HLn.out,HS'.out⟩⟩
     case measure=>simp[intOf]<;>omega
   ·have hz:=hx0 h1
    subst hz
    clear hx0 CA
    by_cases h2:i<k
    ·obtain⟨b2,aX,hp2,cB⟩:=CB.out h2
     clear H2 CB hy0
     subst hp2
     have hw1:IntKind.i64.wrap (c+y)=c+y:=IntWalk.i64_in _ (by omega)
     have hd1:Int.tdiv (c+y) 1000000000=(c+y)/1000000000:=Int.tdiv_eq_ediv_of_nonneg (by omega)
     have hd2:Int.tmod (c+y) 1000000000=(c+y)%1000000000:=Int.tmod_eq_emod_of_nonneg (by omega)
     have hw3:IntKind.i64.wrap ((c+y)/1000000000)=(c+y)/1000000000:=IntWalk.i64_in _ (by omega)
     have hw4:IntKind.i64.wrap ((c+y)%1000000000)=(c+y)%1000000000:=IntWalk.i64_in _ (by omega)
     have HS':Hid (Af za zb (i+1) ((c+y)/1000000000) (L++[(c+y)%1000000000])):=h_ (by have h:=HS.out;rwa [show c+0+y=c+y by omega]at h)
     clear HS
     go_wp2_with (at_builtin;refine wpList_append_fits _ rfl (.tmp 51) (.tmp 54) 59 rfl g 2 i0 1 underlying59 hi hz1 g i (n+1) (L.map (Value.int .i64)) rfl (HOw.out.alloc _) ⟨wr.heap.size,0,none⟩ 1 1 [.int .i64 ((c+y)%1000000000)] rfl rfl (by intro t u ht;match t,ht with|0,ht=>simp at ht;subst ht;simp[Addr.add,go_sem]) (by intro u hu;simp at hu;subst hu;rfl) (by omega) ?_;intro w1 hown1 hgrow1)
     go_roundw
     case rel=>exact⟨i+1,_,L++[(c+y)%1000000000],by omega,by omega,by omega,rfl,rfl,by go_num,h_ ⟨(HBw.out.alloc (by have:=HBw.out.size;have:=HG.out;omega) _).grown hgrow1 (by have:=HBw.out.size;have:=HG.out;simp;omega) (fun _ hk=>by cases hk;exact Nat.le_refl _),qZ hown1 HLn.out,HS'.out⟩⟩
     case measure=>simp[intOf]<;>omega
    ·have hz:=hy0 h2
     subst hz
     clear hy0 CB
     obtain rfl:c=1:=by omega
     have hd1:Int.tdiv 1 1000000000=((1:Int))/1000000000:=Int.tdiv_eq_ediv_of_nonneg (by omega)
     have hd2:Int.tmod 1 1000000000=((1:Int))%1000000000:=Int.tmod_eq_emod_of_nonneg (by omega)
     have hw3:IntKind.i64.wrap (((1:Int))/1000000000)=((1:Int))/1000000000:=IntWalk.i64_in _ (by omega)
     have hw4:IntKind.i64.wrap (((1:Int))%1000000000)=((1:Int))%1000000000:=IntWalk.i64_in _ (by omega)
     have HS':Hid (Af za zb (i+1) (((1:Int))/1000000000) (L++[((1:Int))%1000000000])):=h_ (by have h:=HS.out;rwa [show(1:Int)+0+0=1 by omega]at h)
     clear HS
     go_wp2_with (at_builtin;refine wpList_append_fits _ rfl (.tmp 51) (.tmp 54) 59 rfl g 2 i0 1 underlying59 hi hz1 g i (n+1) (L.map (Value.int .i64)) rfl (HOw.out.alloc _) ⟨wr.heap.size,0,none⟩ 1 1 [.int .i64 (((1:Int))%1000000000)] rfl rfl (by intro t u ht;match t,ht with|0,ht=>simp at ht;subst ht;simp[Addr.add,go_sem]) (by intro u hu;simp at hu;subst hu;rfl) (by omega) ?_;intro w1 hown1 hgrow1)
     go_roundw
     case rel=>exact⟨i+1,_,L++[((1:Int))%1000000000],by omega,by omega,by omega,rfl,rfl,by go_num,h_ ⟨(HBw.out.alloc (by have:=HBw.out.size;have:=HG.out;omega) _).grown hgrow1 (by have:=HBw.out.size;have:=HG.out;simp;omega) (fun _ hk=>by cases hk;exact Nat.le_refl _),qZ hown1 HLn.out,HS'.out⟩⟩
     case measure=>simp[intOf]<;>omega
  ·have hc:c=0:=by omega
   subst hc
   have hin:n≤i:=by omega
   have HBw:=h_ hr.out.1
   have HOw:=h_ hr.out.2.1.row
   have HI:=h_ hr.out.2.2
   clear hr
   go_wp2_with fail
   go_ret
   refine⟨.slice (some ⟨g,0,none⟩) i (n+1),rfl,?_,by rw[HG.out];exact HBw.out⟩
   have hv:=HI.out.val
   rw[List.take_of_length_le (by rw[HL.out];omega),List.take_of_length_le (by rw[HK.out];omega),Int.zero_mul,Int.add_zero]at hv
   have hlen:=HI.out.len
   by_cases h0:L=[]
   ·subst h0
    simp at hlen
    subst hlen
    rw[←hv]
    exact .inl ⟨rfl,_,_,rfl,fun h=>by cases h⟩
   ·have hpos:0<L.length:=List.length_pos_iff.2 h0
    have htop:pw^(L.length-1)≤nv L:=by
     rcases HI.out.top with h|h
     ·rw[HL.out,HK.out]at h
      have hin2:i=n:=by omega
      have na:=dw H.out.wd
      have nb:=dw H2.out.wd
      rcases(show l=n∨k=n by omega)with e|e
      ·have:=tq H.out.wd HC.out.1 (by intro e2;rw[e2]at HL;have:=HL.out;simp at this;omega)
       rw[HL.out,e,←hin2,←hlen]at this
       omega
      ·have:=tq H2.out.wd HC.out.2 (by intro e2;rw[e2]at HK;have:=HK.out;simp at this;omega)
       rw[HK.out,e,←hin2,←hlen]at this
       omega
     ·rw[hlen];exact h
    rw[←hv]
    refine .inr ⟨g,0,n+1,L,by rw[hlen],⟨by have:=HOw.out.2.2;exact this,hpos,HOw.out.2.1.lt,HI.out.wd,atG HI.out.wd h0 htop,rfl,HOw.out.1,HOw.out.2.1⟩⟩
theorem sum_any(w:World)(va vb:Value)(x y:Int)(ha:Nt w va x)(hb:Nt w vb y)(hx:x<big)(hy:y<big):
 Calls prog 120 #[va,vb] w (bf w (x+y)):=by
 obtain⟨p,cap,za,rfl,da,rfl,ca⟩:=ha.dg
 obtain⟨q,cap2,zb,rfl,db,rfl,cb⟩:=hb.dg
 exact ao9 w p cap za q cap2 zb da db (iI da.wd ca rfl hx) (iI db.wd cb rfl hy) ca cb
theorem iW(w:World)(va vb:Value)(x y:Int)(ha:Nt w va x)(hb:Nt w vb y)(hx:x<big)(hle:y≤x):
 Calls prog 121 #[va,vb] w (bf w (x-y)):=by
 obtain⟨p,cap,za,rfl,da,rfl,ca⟩:=ha.dg
 obtain⟨q,cap2,zb,rfl,db,rfl,cb⟩:=hb.dg
 refine ao8 w p cap za q cap2 zb da db (iI da.wd ca rfl hx) ?_ hle
 apply Classical.byContradiction
 intro hc
 by_cases h0:zb=[]
 ·subst h0;simp at hc
 ·have:=AL da.wd db.wd cb h0 (by omega)
  omega
end Go.Proofs.YtnapiakfbihnjaaGreatDoor.R
namespace Go.Proofs.YtnapiakfbihnjaaGreatDoor.R
open Go.RowKit Go.Shelf
theorem abM{zb:List Int}(hw:Wd zb)(hc:Can zb)(hne:zb≠ []):gd zb (zb.length-1)*pw^(zb.length-1)≤nv zb∧nv zb<(gd zb (zb.length-1)+1)*pw^(zb.length-1)∧1≤gd zb (zb.length-1):=by
 have hl:0<zb.length:=List.length_pos_iff.2 hne
 have h1:=dE zb (zb.length-1)
 rw[show zb.length-1+1=zb.length by omega,List.take_length]at h1
 have h2:=jb (eP hw (zb.length-1))
 rw[List.length_take,Nat.min_eq_left (by omega)]at h2
 have h3:=dw (eP hw (zb.length-1))
 obtain⟨t0,t1⟩:=aI hw (zb.length-1)
 have h4:=hc hne
 rw[Int.mul_comm]at h1
 rw[Int.add_mul,Int.one_mul]
 exact⟨by omega,by omega,by omega⟩
theorem Xu{zr:List Int}(hw:Wd zr){k:Nat}(hk:0<k)(h1:zr.length≤k+1):(gd zr (k-1)+1000000000*gd zr k)*pw^(k-1)≤nv zr∧nv zr<(gd zr (k-1)+1000000000*gd zr k+1)*pw^(k-1):=by
 have e1:=dE zr (k-1)
 have e2:=dE zr k
 rw[show k-1+1=k by omega]at e1
 rw[List.take_of_length_le (by omega)]at e2
 have h2:=jb (eP hw (k-1))
 have h3:=dw (eP hw (k-1))
 have h4:pw^(zr.take (k-1)).length≤pw^(k-1):=bT (by rw[List.length_take];omega)
 have h5:pw^k=1000000000*pw^(k-1):=by
  rw[show k=(k-1)+1 by omega,Int.pow_succ,show k-1+1-1=k-1 by omega,show pw=1000000000 from rfl];exact Int.mul_comm _ _
 rw[h5]at e2
 rw[Int.add_mul,Int.add_mul,Int.add_mul,Int.one_mul,Int.mul_assoc]
 generalize pw^(k-1)=P at*
 have e3:1000000000*P*gd zr k=1000000000*(gd zr k*P):=by grind
 have e4:P*gd zr (k-1)=gd zr (k-1)*P:=Int.mul_comm _ _
 omega
theorem Vl{x t r y P:Int}(hP:0<P)(t1:1≤t)(hx:0≤x)(r1:x*P≤r)(r2:r<(x+1)*P)(y1:t*P≤y)(y2:y<(t+1)*P):x/(t+1)≤r/y∧r/y≤(x+1)/t:=by
 have hy:0<y:=by have:=Int.mul_pos (show 0<t by omega) hP;omega
 have hr:0≤r:=by have:=Int.mul_nonneg hx (Int.le_of_lt hP);omega
 constructor
 ·rw[Int.le_ediv_iff_mul_le hy]
  have h1:=Int.ediv_mul_le x (show t+1≠0 by omega)
  have h0:0≤x/(t+1):=Int.ediv_nonneg hx (by omega)
  have h2:=Int.mul_le_mul_of_nonneg_left (show y≤(t+1)*P by omega) h0
  have h3:=Int.mul_le_mul_of_nonneg_right h1 (Int.le_of_lt hP)
  have e:x/(t+1)*((t+1)*P)=x/(t+1)*(t+1)*P:=(Int.mul_assoc _ _ _).symm
  omega
 ·rw[Int.le_ediv_iff_mul_le (show 0<t by omega)]
  have h1:=Int.ediv_mul_le r (show y≠0 by omega)
  have h0:0≤r/y:=Int.ediv_nonneg hr (by omega)
  have h2:=Int.mul_le_mul_of_nonneg_left y1 h0
  have e:r/y*(t*P)=r/y*t*P:=(Int.mul_assoc _ _ _).symm
  have h3:r/y*t*P<(x+1)*P:=by omega
  have:=Int.lt_of_mul_lt_mul_right h3 (Int.le_of_lt hP)
  omega
structure Ag(g:Nat)(za:List Int)(y:Int)(m:Nat)(w:World)(R:Int)(L:List Int):Prop where
 len:L.length=za.length
 wd:Wd L
 val:nv L=pw^m*(nv (za.drop m)/y)
 rest:R=nv (za.drop m)%y
 low: ∀j,j<m→gd L j=0
 blk:bH w g L
theorem IG{za:List Int}{m:Nat}(hm:m<za.length):nv (za.drop m)=gd za m+pw*nv (za.drop (m+1)):=by
 rw[List.drop_eq_getElem_cons hm,gK hm];rfl
theorem Vm{g:Nat}{za:List Int}{y:Int}{m:Nat}{w w2:World}{R:Int}{L:List Int}(hm:m<za.length)(hw:Wd za)(y0:0<y)(h:Ag g za y (m+1) w R L)(q:Int)(hq:q=(gd za m+pw*R)/y)(hB:bH w2 g (L.set m q)):
 Ag g za y m w2 ((gd za m+pw*R)%y) (L.set m q):=by
 obtain⟨z0,z1⟩:=aI hw m
 have hD:=IG (za:=za) hm
 have hR:=h.rest
 have hr0:0≤R:=hR▸Int.emod_nonneg _ (by omega)
 have hr1:R<y:=hR▸Int.emod_lt_of_pos _ y0
 have e1:=Int.mul_ediv_add_emod (nv (za.drop (m+1))) y
 rw[←hR]at e1
 have hn:=dw (kU hw (m+1))
 have hval:=h.val
 generalize hQ:nv (za.drop (m+1))/y=Q at*
 have e2:nv (za.drop m)=(gd za m+pw*R)+y*(pw*Q):=by rw[hD,←e1];grind
 have e3:nv (za.drop m)/y=q+pw*Q:=by rw[e2,Int.add_mul_ediv_left _ _ (by omega),hq]
 have e4:nv (za.drop m)%y=(gd za m+pw*R)%y:=by rw[e2,Int.add_mul_emod_self_left]
 have hp0:0≤gd za m+pw*R:=by have:=Int.mul_nonneg (Int.le_of_lt lX) hr0;omega
 have q0:0≤q:=hq▸Int.ediv_nonneg hp0 (by omega)
 have q1:q<pw:=by
  rw[hq,Int.ediv_lt_iff_lt_mul y0]
  have:=Int.mul_le_mul_of_nonneg_left (show R≤y-1 by omega) (Int.le_of_lt lX)
  rw[Int.mul_sub,Int.mul_one]at this
  have:gd za m<pw:=z1
  omega
 refine⟨by simp[h.len],jY h.wd ⟨q0,q1⟩,?_,e4.symm,?_,hB⟩
 ·rw[lV _ _ _ (by rw[h.len];exact hm),h.low m (by omega),hval,e3,Int.pow_succ];grind
 ·intro j hj
  rw[fD (by omega)]
  exact h.low j (by omega)
end Go.Proofs.YtnapiakfbihnjaaGreatDoor.R
