/-
  Contracts of package exact's naturals: products by a word, products by rows.
-/
import Derived.Test.YtnapiakfbihnjaaGreatDoorP10
import Derived.Deep.RegionHeld3
set_option linter.unusedVariables false
set_option linter.unusedSimpArgs false
set_option maxRecDepth 1000000
set_option maxHeartbeats 4000000
namespace Go.Proofs.YtnapiakfbihnjaaGreatDoor
open Go.RowKit Go.Shelf Tryz
theorem avV(x y:Int)(hx:0≤x)(hx':x<18446744073709551616)(hy:0≤y)(hy':y<18446744073709551616)(w:World):
 Calls prog 246 #[.int .u64 x,.int .u64 y] w fun e w'=>e=.returned (.tuple #[.int .u64 (x*y/18446744073709551616),.int .u64 (x*y%18446744073709551616)])∧w'=w:=by
 obtain⟨x,rfl⟩:=Int.eq_ofNat_of_zero_le hx
 obtain⟨y,rfl⟩:=Int.eq_ofNat_of_zero_le hy
 refine(Any.bits_Mul64 Tryz.lays264 x y (by omega) (by omega) w).mono ?_
 rintro e w' ⟨h1,h2⟩
 refine⟨?_,h2⟩
 rw[h1,←Int.natCast_mul]
 generalize x*y=p
 congr 5<;>omega
theorem qO(x y:Int)(hx:0≤x)(hx':x<18446744073709551616)(hy:0≤y)(hy':y<18446744073709551616):
 ∃hi lo:Int,0≤hi∧hi≤18446744073709551614∧0≤lo∧lo<18446744073709551616∧x*y=hi*18446744073709551616+lo∧x*y≤18446744073709551615*18446744073709551615∧
 ∀w:World,Calls prog 246 #[.int .u64 x,.int .u64 y] w fun e w'=>e=.returned (.tuple #[.int .u64 hi,.int .u64 lo])∧w'=w:=by
 have h0:0≤x*y:=Int.mul_nonneg hx hy
 have h1:x*y≤18446744073709551615*y:=Int.mul_le_mul_of_nonneg_right (by omega) hy
 refine⟨x*y/18446744073709551616,x*y%18446744073709551616,by omega,by omega,by omega,by omega,by omega,by omega,fun w=>avV x y hx hx' hy hy' w⟩
structure EM(g:Nat)(za:List Int)(f m:Int)(n i:Nat)(w:World)(c:Int)(L:List Int):Prop where
 len:L.length=n
 wd:Wd L
 val:nv L+pw^i*c=nv (za.take i)*f+m
 high: ∀j,i≤j→gd L j=0
 blk:bH w g L
theorem Xo{g:Nat}{za:List Int}{f m:Int}{n:Nat}{w:World}(h:bH w g (List.replicate n 0)):EM g za f m n 0 w m (List.replicate n 0):=
 ⟨List.length_replicate,fA n,by rw[iU];simp[nv],fun j _=>nS n j,h⟩
theorem abk{g:Nat}{za:List Int}{f m c hi lo:Int}{n i:Nat}{w w2:World}{L:List Int}(hn:i<n)(h:EM g za f m n i w c L)(hp:gd za i*f=hi*18446744073709551616+lo)
 (hB:bH w2 g (L.set i ((lo+c)%18446744073709551616))):EM g za f m n (i+1) w2 (hi+(lo+c)/18446744073709551616) (L.set i ((lo+c)%18446744073709551616)):=by
 refine⟨by simp[h.len],jY h.wd ⟨Int.emod_nonneg _ (by omega),Int.emod_lt_of_pos _ (by omega)⟩,?_,?_,hB⟩
 ·rw[lV _ _ _ (by rw[h.len];exact hn),h.high i (Nat.le_refl _),dE,Int.pow_succ,show pw=18446744073709551616 from rfl,Int.add_mul]
  have hv:=h.val
  rw[show pw=18446744073709551616 from rfl]at hv
  have e:=Int.mul_ediv_add_emod (lo+c) 18446744073709551616
  generalize (lo+c)/18446744073709551616=q at*
  generalize (lo+c)%18446744073709551616=r at*
  have:r=lo+c-18446744073709551616*q:=by omega
  rw[this,Int.mul_assoc (18446744073709551616^i) (gd za i) f,hp]
  grind
 ·intro j hj
  rw[fD (by omega)]
  exact h.high j (by omega)
theorem Py(w:World)(b off cap:Nat)(za:List Int)(x f m:Int)(ha:Ns w b off cap za x)(hx:x<big)(f0:0≤f)(f1:f<18446744073709551616)(m0:0≤m)(m1:m<18446744073709551616):
 Calls prog 210 #[.slice (some ⟨b,off,none⟩) za.length cap,.int .u64 f,.int .u64 m] w (bf w (x*f+m)):=by
 have hl:=ha.len hx
 have hcap:=ha.cap
 have HLT:=h_ ha.lt
 have H:=h_ ha
 clear ha hx
 obtain⟨l,hl'⟩: ∃l,za.length=l:=⟨_,rfl⟩
 have HL:=h_ hl'
 rw[hl']at hl hcap⊢
 clear hl'
 obtain⟨i0,hi,hz0,hz1,hz2⟩:=info_parts wO
 go_enter func210,ntmps210
 go_wp2_with (at_make;refine wpList_make_full w rfl (.tmp 15) (.tmp 15) 43 rfl w.heap.size 24 i0 (.int .u64 0) 1 underlying43 hi hz0 hz1 .i64 .i64 _ _ (l+1) rfl rfl (by omega) (by omega) (by rw[hz2];omega) (by unfold maxLen;omega) (Nat.le_refl _) ?_;intro w1 hown hgrow;have hblk:=h_ (jV hown);have hbel:=h_ (gV hgrow);clear hown hgrow hi hz0 hz1 hz2)
 generalize hg:w.heap.size=g at hblk hbel
 have HG:=h_ hg
 clear hg
 go_loopw [2,19] (fun u v wr=> ∃(i:Nat) (c:Int),i≤l∧0≤c∧c<18446744073709551616∧u=.int .u64 c∧v=.int .i64 i∧Hid (Below g w wr∧ ∃L,EM g za f m (l+1) i wr c L)) (fun _ v _=>l-(intOf v).toNat)
 case atStart=>exact⟨0,m,Nat.zero_le _,m0,m1,rfl,rfl,h_ ⟨hbel.out,_,Xo hblk.out⟩⟩
 case round=>
  obtain⟨i,c,him,c0,c1,rfl,rfl,hr⟩:=hrel
  by_cases hlt:i<l
  ·obtain⟨hbw,L,hL⟩:=hr.out
   have cA:=(hbw.cell (p:=⟨b,off+i,none⟩) (by have:=HLT.out;have:=HG.out;simp;omega)).trans (H.out.row i (by rw[HL.out];omega))
   have cO:=hL.blk.cell i (by rw[hL.len];omega)
   have fO:=hL.blk.frozen i
   have HI:=h_ hL
   have HBw:=h_ hbw
   obtain⟨a0,a1⟩:=aI H.out.wd i
   obtain⟨hi,lo,p0,p1,p2,p3,p4,p5,hc⟩:=qO (gd za i) f a0 a1 f0 f1
   have HC:=h_ hc
   have HP:=h_ p4
   have hw:hi+(lo+c)/18446744073709551616<18446744073709551616:=by omega
   have HW:Hid (IntKind.u64.wrap (hi+(lo+c)/18446744073709551616)=hi+(lo+c)/18446744073709551616):=h_ (by rw[IntKind.wrap_u64];omega)
   have HA:=h_ (Dk lo c p2 c0)
   have HN:Hid (0≤hi+(lo+c)/18446744073709551616∧hi+(lo+c)/18446744073709551616<18446744073709551616):=h_ ⟨by omega,hw⟩
   clear hr hL hbw hc p0 p1 p2 p3 p4 p5 hw a0 a1
   go_wp2_with (first|(go_at_call 246;refine(HC.out _).mono ?_;rintro e w' ⟨rfl,rfl⟩)|simp only[HA.out])
   go_roundw
   case rel=>
    refine⟨i+1,hi+(lo+c)/18446744073709551616,by omega,HN.out.1,HN.out.2,by rw[HW.out],by go_num,h_ ⟨gQ HBw.out (Nat.le_refl _) _ _,_,abk (by omega) HI.out HP.out (HI.out.blk.set _ _)⟩⟩
   case measure=>simp[intOf]<;>omega
  ·have hie:i=l:=by omega
   subst hie
   clear hlt him
   obtain⟨hbw,L,hL⟩:=hr.out
   have hLL:=hL.len
   have cO:=hL.blk.cell i (by rw[hL.len];omega)
   have fO:=hL.blk.frozen i
   have HH:=h_ hL
   have HBw:=h_ hbw
   clear hr hL hbw hLL
   have hval:nv (L.set i c)=x*f+m:=by
    rw[lV _ _ _ (by rw[HH.out.len];omega),HH.out.high i (Nat.le_refl _)]
    have hv:=HH.out.val
    rw[show za.take i=za by rw[←HL.out,List.take_length],H.out.val]at hv
    rw[←hv,Int.sub_zero]
   have hwd:Wd (L.set i c):=jY HH.out.wd ⟨c0,c1⟩
   have HV:=h_ (And.intro hval hwd)
   clear hval hwd
   have hcut: ∀wr',bH wr' g (L.set i c)→_:=fun wr' hb=>oC g 0 (i+1) (L.set i c) wr' (by simp[HH.out.len];omega) (by simp[HH.out.len]) hb.row
   have hBs:=HH.out.blk.set i c
   have abl:=hcut _ hBs
   rw[show(L.set i c).length=i+1 by simp[HH.out.len]]at abl
   have HC:=h_ abl
   have HBs:=h_ hBs
   clear hcut abl hBs
   go_wp2_with fail
   refine HC.out.mono ?_
   rintro e w' ⟨rfl,m',hm1,hm2,hm3,rfl⟩
   go_wp2_with fail
   go_ret
   refine⟨_,rfl,?_,gQ (by rw[HG.out];exact HBw.out) (by rw[HG.out];exact Nat.le_refl _) _ _⟩
   rw[←HV.out.1]
   exact qG HBs.out.row HBs.out.lt HBs.out.ty HV.out.2 (by simp[HH.out.len]) m' hm1 hm2 hm3
end Go.Proofs.YtnapiakfbihnjaaGreatDoor
namespace Go.Proofs.YtnapiakfbihnjaaGreatDoor
open Go.RowKit Go.Shelf
structure Iu(g o:Nat)(M zb:List Int)(f:Int)(i:Nat)(w:World)(c:Int)(M':List Int):Prop where
 len:M'.length=M.length
 wd:Wd M'
 val:nv M'=nv M+pw^o*(nv (zb.take i)*f)-pw^(o+i)*c
 same: ∀j,j<o∨o+i≤j→gd M' j=gd M j
 blk:bH w g M'
theorem abm{g o:Nat}{M zb:List Int}{f:Int}{w:World}(h:bH w g M)(hM:Wd M):Iu g o M zb f 0 w 0 M:=
 ⟨rfl,hM,by simp[nv],fun j _=>rfl,h⟩
theorem aex{g o:Nat}{M zb M':List Int}{f c hi lo:Int}{i:Nat}{w w2:World}(hn:o+i<M.length)(h:Iu g o M zb f i w c M')(hp:gd zb i*f=hi*18446744073709551616+lo)
 (hB:bH w2 g (M'.set (o+i) ((gd M' (o+i)+(lo+c)%18446744073709551616)%18446744073709551616))):
 Iu g o M zb f (i+1) w2 (hi+(lo+c)/18446744073709551616+(gd M' (o+i)+(lo+c)%18446744073709551616)/18446744073709551616) (M'.set (o+i) ((gd M' (o+i)+(lo+c)%18446744073709551616)%18446744073709551616)):=by
 refine⟨by simp[h.len],jY h.wd ⟨Int.emod_nonneg _ (by omega),Int.emod_lt_of_pos _ (by omega)⟩,?_,?_,hB⟩
 ·rw[lV _ _ _ (by rw[h.len];exact hn),h.val,dE,show o+(i+1)=o+i+1 by omega,Int.pow_succ,Int.pow_add,show pw=18446744073709551616 from rfl,Int.add_mul,Int.mul_assoc (18446744073709551616^i) (gd zb i) f,hp]
  have e1:=Int.mul_ediv_add_emod (lo+c) 18446744073709551616
  generalize (lo+c)/18446744073709551616=q at*
  generalize (lo+c)%18446744073709551616=r at*
  have e2:=Int.mul_ediv_add_emod (gd M' (o+i)+r) 18446744073709551616
  generalize (gd M' (o+i)+r)/18446744073709551616=q2 at*
  generalize (gd M' (o+i)+r)%18446744073709551616=r2 at*
  have h1:r=lo+c-18446744073709551616*q:=by omega
  have h2:r2=gd M' (o+i)+r-18446744073709551616*q2:=by omega
  rw[h2,h1];grind
 ·intro j hj
  rw[fD (by omega)]
  exact h.same j (by omega)
def JF(w:World)(g o n:Nat)(M:List Int)(y:Int)(e:Ending)(w':World):Prop:=
 ∃(c:Int) (M':List Int),0≤c∧c<18446744073709551616∧e=.returned (.int .u64 c)∧Only g w w'∧M'.length=M.length∧Wd M'∧nv M'=nv M+pw^o*y-pw^(o+n)*c∧(∀j,j<o∨o+n≤j→gd M' j=gd M j)∧bH w' g M'
theorem Dt(w:World)(g o n cap:Nat)(M:List Int)(hB:bH w g M)(hM:Wd M)(b off cap2:Nat)(zb:List Int)(hon:o+zb.length≤M.length)(hMl:M.length≤10000)(hl:zb.length≤n)(hcap:zb.length≤cap2)
 (hwd:Wd zb) (hr:Row w b off zb) (hne:b≠g) (f:Int) (f0:0≤f) (f1:f<18446744073709551616):
 Calls Tryz.prog 250 #[.slice (some ⟨g,o,none⟩) n cap,.slice (some ⟨b,off,none⟩) zb.length cap2,.int .u64 f] w (JF w g o zb.length M (nv zb*f)):=by
 have HM:=h_ (And.intro hB hM)
 have HW:=h_ hwd
 have HR:=h_ hr
 clear hB hM hwd hr
 obtain⟨m,hm⟩: ∃m,M.length=m:=⟨_,rfl⟩
 have Hm:=h_ hm
 rw[hm]at hon hMl
 clear hm
 obtain⟨l,hl'⟩: ∃l,zb.length=l:=⟨_,rfl⟩
 have HL:=h_ hl'
 rw[hl']at hl hcap hon⊢
 clear hl'
 go_enter Tryz.func250,Tryz.ntmps250
 go_wp2_with fail
 go_loopw [7,15] (fun u v wr=> ∃(i:Nat) (c:Int),i≤l∧0≤c∧c<18446744073709551616∧u=.int .u64 c∧v=.int .i64 i∧Hid (Only g w wr∧ ∃M',Iu g o M zb f i wr c M')) (fun _ v _=>l-(intOf v).toNat)
 case atStart=>exact⟨0,0,Nat.zero_le _,by omega,by omega,rfl,rfl,h_ ⟨Only.refl _ _,_,abm HM.out.1 HM.out.2⟩⟩
 case round=>
  obtain⟨i,c,him,c0,c1,rfl,rfl,hr⟩:=hrel
  by_cases hlt:i<l
  ·obtain⟨qH,M',hI⟩:=hr.out
   have cA:=qH.cell (HR.out i (by rw[HL.out];omega)) hne
   have cO:=hI.blk.cell (o+i) (by rw[hI.len,Hm.out];omega)
   have fO:=hI.blk.frozen (o+i)
   have HI:=h_ hI
   have HO:=h_ qH
   obtain⟨a0,a1⟩:=aI hI.wd (o+i)
   obtain⟨b0,b1⟩:=aI HW.out i
   obtain⟨hi,lo,p0,p1,p2,p3,p4,p5,hc⟩:=qO (gd zb i) f b0 b1 f0 f1
   have HC:=h_ hc
   have HP:=h_ p4
   have q0:0≤(lo+c)%18446744073709551616:=Int.emod_nonneg _ (by decide)
   have HA:=h_ (Dk lo c p2 c0)
   have HA2:=h_ (Dk (gd M' (o+i)) ((lo+c)%18446744073709551616) a0 q0)
   have hw1:hi+(lo+c)/18446744073709551616<18446744073709551616:=by omega
   have hw2:hi+(lo+c)/18446744073709551616+(gd M' (o+i)+(lo+c)%18446744073709551616)/18446744073709551616<18446744073709551616:=by omega
   have HN:Hid (0≤hi+(lo+c)/18446744073709551616+(gd M' (o+i)+(lo+c)%18446744073709551616)/18446744073709551616∧hi+(lo+c)/18446744073709551616+(gd M' (o+i)+(lo+c)%18446744073709551616)/18446744073709551616<18446744073709551616):=h_ ⟨by omega,hw2⟩
   have HW1:Hid (IntKind.u64.wrap (hi+(lo+c)/18446744073709551616)=hi+(lo+c)/18446744073709551616):=h_ (by rw[IntKind.wrap_u64];omega)
   have HW2:Hid (IntKind.u64.wrap (hi+(lo+c)/18446744073709551616+(gd M' (o+i)+(lo+c)%18446744073709551616)/18446744073709551616)=hi+(lo+c)/18446744073709551616+(gd M' (o+i)+(lo+c)%18446744073709551616)/18446744073709551616):=h_ (by rw[IntKind.wrap_u64];omega)
   have HE:Hid ((gd M' (o+i)+(lo+c)%18446744073709551616)%18446744073709551616=(gd M' (o+i)+(lo+c))%18446744073709551616):=h_ (by omega)
   clear hr hI qH hc p0 p1 p2 p3 p4 p5 q0 hw1 hw2 a0 a1 b0 b1
   go_wp2_with (first|(go_at_call 246;refine(HC.out _).mono ?_;rintro e w' ⟨rfl,rfl⟩)|simp only[HA.out]|simp only[HA2.out])
   go_roundw
   case rel=>exact⟨i+1,_,by omega,HN.out.1,HN.out.2,by rw[HW1.out,HW2.out],by go_num,h_ ⟨HO.out.set _ _,_,aex (by rw[Hm.out];omega) HI.out HP.out (by rw[HE.out];exact HI.out.blk.set _ _)⟩⟩
   case measure=>simp[intOf]<;>omega
  ·have hie:i=l:=by omega
   subst hie
   clear hlt him
   go_wp2_with fail
   go_ret
   obtain⟨h7,M',h8⟩:=hr.out
   refine⟨c,M',c0,c1,rfl,h7,h8.len,h8.wd,?_,h8.same,h8.blk⟩
   rw[h8.val,List.take_of_length_le (by rw[HL.out];exact Nat.le_refl _)]
end Go.Proofs.YtnapiakfbihnjaaGreatDoor
namespace Go.Proofs.YtnapiakfbihnjaaGreatDoor
open Go.RowKit Go.Shelf Tryz
structure Iw(g la:Nat)(zb:List Int)(x:Int)(n i:Nat)(w:World)(L:List Int):Prop where
 len:L.length=n
 wd:Wd L
 val:nv L=x*nv (zb.take i)
 high: ∀j,i+la≤j→gd L j=0
 blk:bH w g L
theorem abn{g la:Nat}{zb:List Int}{x:Int}{n:Nat}{w:World}(h:bH w g (List.replicate n 0)):Iw g la zb x n 0 w (List.replicate n 0):=
 ⟨List.length_replicate,fA n,by rw[iU];simp[nv],fun j _=>nS n j,h⟩
theorem aey{g la:Nat}{zb:List Int}{x c:Int}{n i:Nat}{w w2:World}{L M':List Int}(hn:i+la<n)(h:Iw g la zb x n i w L)(c0:0≤c)(c1:c<18446744073709551616)(h2:M'.length=L.length)(h3:Wd M')
 (h4:nv M'=nv L+pw^i*(x*gd zb i)-pw^(i+la)*c) (h5: ∀j,j<i∨i+la≤j→gd M' j=gd L j) (hB:bH w2 g (M'.set (i+la) c)):Iw g la zb x n (i+1) w2 (M'.set (i+la) c):=by
 refine⟨by simp[h2,h.len],jY h3 ⟨c0,c1⟩,?_,?_,hB⟩
 ·rw[lV _ _ _ (by rw[h2,h.len];exact hn),h5 (i+la) (.inr (Nat.le_refl _)),h.high (i+la) (Nat.le_refl _),h4,h.val,dE]
  grind
 ·intro j hj
  rw[fD (by omega),h5 j (.inr (by omega))]
  exact h.high j (by omega)
theorem I9(w:World)(b off cap:Nat)(za:List Int)(x:Int)(b2 aX cap2:Nat)(zb:List Int)(y:Int)(ha:Ns w b off cap za x)(hb:Ns w b2 aX cap2 zb y)(hx:x<big)(hy:y<big):
 Calls prog 214 #[.slice (some ⟨b,off,none⟩) za.length cap,.slice (some ⟨b2,aX,none⟩) zb.length cap2] w (bf w (x*y)):=by
 have hl:=ha.len hx
 have hl2:=hb.len hy
 have hcap:=ha.cap
 have hcap2:=hb.cap
 have hpos:=ha.pos
 have aa1:=hb.pos
 have HLT:=h_ ha.lt
 have JE:=h_ hb.lt
 have H:=h_ ha
 have H2:=h_ hb
 clear ha hb hx hy
 obtain⟨l,hl'⟩: ∃l,za.length=l:=⟨_,rfl⟩
 obtain⟨k,hk'⟩: ∃k,zb.length=k:=⟨_,rfl⟩
 have HL:=h_ hl'
 have HK:=h_ hk'
 rw[hl']at hl hcap hpos⊢
 rw[hk']at hl2 hcap2 aa1⊢
 clear hl' hk'
 obtain⟨i0,hi,hz0,hz1,hz2⟩:=info_parts wO
 go_enter func214,ntmps214
 go_wp2_with (at_make;refine wpList_make_full w rfl (.tmp 12) (.tmp 12) 43 rfl w.heap.size 24 i0 (.int .u64 0) 1 underlying43 hi hz0 hz1 .i64 .i64 _ _ (l+k) rfl rfl (by omega) (by omega) (by rw[hz2];omega) (by unfold maxLen;omega) (Nat.le_refl _) ?_;intro w1 hown hgrow;have hblk:=h_ (jV hown);have hbel:=h_ (gV hgrow);clear hown hgrow hi hz0 hz1 hz2)
 generalize hg:w.heap.size=g at hblk hbel
 have HG:=h_ hg
 clear hg
 go_loopw [16] (fun v wr=> ∃(i:Nat),i≤k∧v=.int .i64 i∧Hid (Below g w wr∧ ∃L,Iw g l zb x (l+k) i wr L)) (fun v _=>k-(intOf v).toNat)
 case atStart=>exact⟨0,Nat.zero_le _,rfl,h_ ⟨hbel.out,_,abn hblk.out⟩⟩
 case round=>
  obtain⟨i,him,rfl,hr⟩:=hrel
  by_cases hlt:i<k
  ·obtain⟨hbw,L,hL⟩:=hr.out
   have cA:=(hbw.cell (p:=⟨b2,aX+i,none⟩) (by have:=JE.out;have:=HG.out;simp;omega)).trans (H2.out.row i (by rw[HK.out];omega))
   have HI:=h_ hL
   have HBw:=h_ hbw
   have HA:=h_ (H.out.below (w':=wr) (by rw[HG.out];exact hbw))
   obtain⟨b0,b1⟩:=aI H2.out.wd i
   have HC:Hid (∀cp:Nat,Calls prog 250 #[.slice (some ⟨g,i,none⟩) l cp,.slice (some ⟨b,off,none⟩) l cap,.int .u64 (gd zb i)] wr (JF wr g i l L (x*gd zb i))):=h_ fun cp=>by
    have h:=Dt wr g i l cp L HI.out.blk HI.out.wd b off cap za (by rw[HL.out,HI.out.len];omega) (by rw[HI.out.len];omega) (by rw[HL.out];exact Nat.le_refl _) (by rw[HL.out];exact hcap) HA.out.wd HA.out.row (by have:=HLT.out;have:=HG.out;omega) (gd zb i) b0 b1
    rw[HL.out,HA.out.val]at h
    exact h
   clear hr hL hbw b0 b1
   go_wp2_with (go_at_call 250;refine(HC.out _).mono ?_;rintro e w' ⟨c,M',c0,c1,rfl,h1,h2,h3,h4,h5,h6⟩;have cO:=h6.cell (i+l) (by rw[h2,HI.out.len];omega);have fO:=h6.frozen (i+l);have HP:=h_ (And.intro c0 (And.intro c1 (And.intro h1 (And.intro h2 (And.intro h3 (And.intro h4 (And.intro h5 h6)))))));clear c0 c1 h1 h2 h3 h4 h5 h6)
   obtain⟨c0,c1,h1,h2,h3,h4,h5,h6⟩:=HP.out
   go_roundw
   case rel=>exact⟨i+1,by omega,by go_num,h_ ⟨gQ (HBw.out.grown h1 (by have:=HBw.out.size;have:=HG.out;omega) (fun _ hk=>by cases hk;exact Nat.le_refl _)) (Nat.le_refl _) _ _,_,aey (by omega) HI.out c0 c1 h2 h3 h4 h5 (h6.set _ _)⟩⟩
   case measure=>simp[intOf]<;>omega
  ·have hie:i=k:=by omega
   subst hie
   clear hlt him
   obtain⟨hbw,L,hL⟩:=hr.out
   have HH:=h_ hL
   have HBw:=h_ hbw
   clear hr hL hbw
   have hcut:=oC g 0 (l+i) L wr (by rw[HH.out.len];omega) (by rw[HH.out.len];exact Nat.le_refl _) HH.out.blk.row
   rw[HH.out.len]at hcut
   have HC:=h_ hcut
   clear hcut
   go_wp2_with fail
   refine HC.out.mono ?_
   rintro e w' ⟨rfl,m',hm1,hm2,hm3,rfl⟩
   go_wp2_with fail
   go_ret
   refine⟨_,rfl,?_,by rw[HG.out];exact HBw.out⟩
   have hv:=HH.out.val
   rw[show zb.take i=zb by rw[←HK.out,List.take_length],H2.out.val]at hv
   rw[←hv]
   exact qG HH.out.blk.row HH.out.blk.lt HH.out.blk.ty HH.out.wd (by rw[HH.out.len];exact Nat.le_refl _) m' hm1 hm2 hm3
theorem Ns.one{w:World}{b off cap:Nat}{zs:List Int}{n:Int}(h:Ns w b off cap zs n)(h1:zs.length=1):gd zs 0=n:=by
 have h2:=h.val
 match zs,h1 with
 |[z],_=>
  simp only[nv]at h2
  simp[gd]
  omega
theorem arU(w:World)(b off cap:Nat)(za:List Int)(x:Int)(b2 aX cap2:Nat)(zb:List Int)(y:Int)(ha:Ns w b off cap za x)(hb:Ns w b2 aX cap2 zb y)(hx:x<big)(hy:y<big)(hl:zb.length≤za.length)(Ap:zb.length<40):
 Calls prog 180 #[.slice (some ⟨b,off,none⟩) za.length cap,.slice (some ⟨b2,aX,none⟩) zb.length cap2] w (bf w (x*y)):=by
 have HR:=h_ (I9 w b off cap za x b2 aX cap2 zb y ha hb hx hy)
 have cB:=hb.row 0 hb.pos
 have hla:=ha.len hx
 have hpos:=hb.pos
 have hcap:=ha.cap
 have hcap2:=hb.cap
 obtain⟨y0,y1⟩:=aI hb.wd 0
 have HS:=h_ (Py w b off cap za x (gd zb 0) 0 ha hx y0 y1 (Int.le_refl 0) (by decide))
 have H2:=h_ hb
 rw[Nat.add_zero]at cB
 clear ha hb hx hy
 obtain⟨l,hl'⟩: ∃l,za.length=l:=⟨_,rfl⟩
 obtain⟨k,hk'⟩: ∃k,zb.length=k:=⟨_,rfl⟩
 have HK:=h_ hk'
 rw[hl']at HR HS hla hcap hl⊢
 rw[hk']at HR hcap2 hpos hl Ap⊢
 clear hl' hk' y0 y1
 by_cases h1:k=1
 ·subst h1
  have hv:gd zb 0=y:=H2.out.one HK.out
  have HV:=h_ hv
  clear hv
  go_enter func180,ntmps180
  go_wp2_with (go_at_call 210;refine HS.out.mono ?_;rintro e w' ⟨v,rfl,hv,hb⟩;obtain⟨bo,lb,cb,rfl⟩:=hv.shape)
  go_ret
  rw[HV.out,Int.add_zero]at hv
  exact⟨_,rfl,hv,hb⟩
 ·clear HS cB
  go_enter func180,ntmps180
  go_wp2_with (go_at_call 214;refine HR.out.mono ?_;rintro e w' ⟨v,rfl,hv,hb⟩;obtain⟨bo,lb,cb,rfl⟩:=hv.shape)
  go_ret
  exact⟨_,rfl,hv,hb⟩
theorem mul_lt(w:World)(b off cap:Nat)(za:List Int)(x:Int)(b2 aX cap2:Nat)(zb:List Int)(y:Int)(ha:Ns w b off cap za x)(hb:Ns w b2 aX cap2 zb y)(hx:x<big)(hy:y<big)(hl:zb.length<za.length)(Ap:zb.length<40):
 Calls prog 180 #[.slice (some ⟨b2,aX,none⟩) zb.length cap2,.slice (some ⟨b,off,none⟩) za.length cap] w (bf w (x*y)):=by
 have HR:=h_ (I9 w b off cap za x b2 aX cap2 zb y ha hb hx hy)
 have cB:=hb.row 0 hb.pos
 have hla:=ha.len hx
 have hpos:=hb.pos
 have hcap:=ha.cap
 have hcap2:=hb.cap
 obtain⟨y0,y1⟩:=aI hb.wd 0
 have HS:=h_ (Py w b off cap za x (gd zb 0) 0 ha hx y0 y1 (Int.le_refl 0) (by decide))
 have H2:=h_ hb
 rw[Nat.add_zero]at cB
 clear ha hb hx hy
 obtain⟨l,hl'⟩: ∃l,za.length=l:=⟨_,rfl⟩
 obtain⟨k,hk'⟩: ∃k,zb.length=k:=⟨_,rfl⟩
 have HK:=h_ hk'
 rw[hl']at HR HS hla hcap hl⊢
 rw[hk']at HR hcap2 hpos hl Ap⊢
 clear hl' hk' y0 y1
 by_cases h1:k=1
 ·subst h1
  have hv:gd zb 0=y:=H2.out.one HK.out
  have HV:=h_ hv
  clear hv
  go_enter func180,ntmps180
  go_wp2_with (go_at_call 210;refine HS.out.mono ?_;rintro e w' ⟨v,rfl,hv,hb⟩;obtain⟨bo,lb,cb,rfl⟩:=hv.shape)
  go_ret
  rw[HV.out,Int.add_zero]at hv
  exact⟨_,rfl,hv,hb⟩
 ·clear HS cB
  go_enter func180,ntmps180
  go_wp2_with (go_at_call 214;refine HR.out.mono ?_;rintro e w' ⟨v,rfl,hv,hb⟩;obtain⟨bo,lb,cb,rfl⟩:=hv.shape)
  go_ret
  exact⟨_,rfl,hv,hb⟩
theorem Gz(w:World)(b off cap:Nat)(za:List Int)(x:Int)(b2 aX cap2:Nat)(zb:List Int)(y:Int)(ha:Ns w b off cap za x)(hb:Ns w b2 aX cap2 zb y)(hx:x<big)(hy:y<big)(Ap:za.length<40∨zb.length<40):
 Calls prog 180 #[.slice (some ⟨b,off,none⟩) za.length cap,.slice (some ⟨b2,aX,none⟩) zb.length cap2] w (bf w (x*y)):=by
 by_cases hl:zb.length≤za.length
 ·exact arU w b off cap za x b2 aX cap2 zb y ha hb hx hy hl (by omega)
 ·have:=mul_lt w b2 aX cap2 zb y b off cap za x hb ha hy hx (by omega) (by omega)
  rwa [Int.mul_comm y x]at this
end Go.Proofs.YtnapiakfbihnjaaGreatDoor
namespace Go.Proofs.YtnapiakfbihnjaaGreatDoor
open Go.RowKit Go.Shelf
structure kW(u c h l q r:Int):Prop where
 eq:q*h+r=u
 q0:0≤q
 q1:q≤4294967297
 r0:0≤r
 r1:r<4294967296
 up:u*4294967296+c<(q+1)*(h*4294967296+l)
structure qh(u c h l:Int):Prop where
 h0:2147483648≤h
 h1:h<4294967296
 l0:0≤l
 l1:l<4294967296
 c0:0≤c
 c1:c<4294967296
 u0:0≤u
 u1:u<h*4294967296+l
def kw(u c h l q:Int):Prop:=0≤q∧q<4294967296∧q*(h*4294967296+l)≤u*4294967296+c∧u*4294967296+c<(q+1)*(h*4294967296+l)
theorem AV{u c h l:Int}(A:qh u c h l):kW u c h l (u/h) (u-u/h*h):=by
 obtain⟨h0,h1,l0,l1,c0,c1,u0,u1⟩:=A
 have e:=Int.mul_ediv_add_emod u h
 have r0:=Int.emod_nonneg u (show h≠0 by omega)
 have r1:=Int.emod_lt_of_pos u (show 0<h by omega)
 have q0:0≤u/h:=Int.ediv_nonneg u0 (by omega)
 rw[Int.mul_comm]at e
 generalize u/h=q at*
 generalize u%h=r at*
 refine⟨by omega,q0,?_,by omega,by omega,?_⟩
 ·apply Classical.byContradiction
  intro hc
  have:=Int.mul_le_mul_of_nonneg_right (show 4294967298≤q by omega) (show 0≤h by omega)
  omega
 ·have e1:(q+1)*(h*4294967296+l)=(q*h+h)*4294967296+(q+1)*l:=by grind
  have e2:0≤(q+1)*l:=Int.mul_nonneg (by omega) l0
  rw[e1];omega
theorem vZ{u c h l q r:Int}(A:qh u c h l)(I:kW u c h l q r)(hc:4294967296≤q∨r*4294967296+c<q*l):1≤q∧u*4294967296+c<q*(h*4294967296+l):=by
 obtain⟨h0,h1,l0,l1,c0,c1,u0,u1⟩:=A
 obtain⟨eq,q0,q1,r0,r1,up⟩:=I
 have hlt:u*4294967296+c<q*(h*4294967296+l):=by
  rcases hc with hc|hc
  ·have:=Int.mul_le_mul_of_nonneg_right hc (show 0≤h*4294967296+l by omega)
   omega
  ·have e1:q*(h*4294967296+l)=q*h*4294967296+q*l:=by grind
   rw[e1];omega
 refine⟨?_,hlt⟩
 apply Classical.byContradiction
 intro hq
 have hz:q=0:=by omega
 rw[hz,Int.zero_mul]at hlt
 omega
theorem qM{u c h l q r:Int}(A:qh u c h l)(I:kW u c h l q r)(hc:4294967296≤q∨r*4294967296+c<q*l)(hr:r+h<4294967296):kW u c h l (q-1) (r+h):=by
 obtain⟨g0,g1⟩:=vZ A I hc
 have h0:=A.h0
 obtain⟨eq,q0,q1,r0,r1,up⟩:=I
 refine⟨?_,by omega,by omega,by omega,hr,by rw[show q-1+1=q by omega];exact g1⟩
 rw[Int.sub_mul,Int.one_mul];omega
theorem YH{u c h l q:Int}(A:qh u c h l)(q0:0≤q)(h1:q*(h*4294967296+l)≤u*4294967296+c)(h2:u*4294967296+c<(q+1)*(h*4294967296+l)):kw u c h l q:=by
 refine⟨q0,?_,h1,h2⟩
 apply Classical.byContradiction
 intro hc
 have:=Int.mul_le_mul_of_nonneg_right (show 4294967296≤q by omega) (show 0≤h*4294967296+l by have:=A.h0;have:=A.l0;omega)
 have:=A.u1;have:=A.c1
 omega
theorem oM{u c h l q r:Int}(A:qh u c h l)(I:kW u c h l q r)(hc:4294967296≤q∨r*4294967296+c<q*l)(hr:4294967296≤r+h):kw u c h l (q-1):=by
 obtain⟨g0,g1⟩:=vZ A I hc
 refine YH A (by omega) ?_ (by rw[show q-1+1=q by omega];exact g1)
 obtain⟨h0,h1,l0,l1,c0,c1,u0,u1⟩:=A
 obtain⟨eq,q0,q1,r0,r1,up⟩:=I
 have e1:(q-1)*(h*4294967296+l)=q*h*4294967296-h*4294967296+(q-1)*l:=by grind
 have e2:(q-1)*l≤4294967296*l:=Int.mul_le_mul_of_nonneg_right (by omega) l0
 rw[e1];omega
theorem Es{u c h l q r:Int}(A:qh u c h l)(I:kW u c h l q r)(hc:q*l≤r*4294967296+c):kw u c h l q:=by
 refine YH A I.q0 ?_ I.up
 have e1:q*(h*4294967296+l)=q*h*4294967296+q*l:=by grind
 have:=I.eq
 rw[e1];omega
theorem Et{u c h l q:Int}(E:kw u c h l q):0≤u*4294967296+c-q*(h*4294967296+l)∧u*4294967296+c-q*(h*4294967296+l)<h*4294967296+l:=by
 obtain⟨_,_,h1,h2⟩:=E
 rw[Int.add_mul,Int.one_mul]at h2
 omega
theorem ahc{n y u c d h l q1 q0:Int}{s:Nat}(hn:n*2^s=(u*4294967296+c)*4294967296+d)(hy:y*2^s=h*4294967296+l)(y0:0<y)
 (E1:kw u c h l q1) (E0:kw (u*4294967296+c-q1*(h*4294967296+l)) d h l q0):
 n/y=q1*4294967296+q0∧n%y=((u*4294967296+c-q1*(h*4294967296+l))*4294967296+d-q0*(h*4294967296+l))/2^s:=by
 have hp:=au s
 obtain⟨a0,a1,a2,a3⟩:=E1
 obtain⟨b0,b1,b2,b3⟩:=E0
 rw[←hy]at*
 generalize hr:(u*4294967296+c-q1*(y*2^s))*4294967296+d-q0*(y*2^s)=r at*
 have hr0:0≤r:=by omega
 have hr1:r<y*2^s:=by rw[Int.add_mul,Int.one_mul]at b3;omega
 have e:n*2^s=(q1*4294967296+q0)*(y*2^s)+r:=by rw[hn,←hr];grind
 have e2:r=(n-(q1*4294967296+q0)*y)*2^s:=by
  rw[Int.sub_mul,e,Int.mul_assoc];omega
 have e3:r/2^s=n-(q1*4294967296+q0)*y:=by rw[e2,Int.mul_ediv_cancel _ (Int.ne_of_gt hp)]
 rw[e3]
 generalize q1*4294967296+q0=q at*
 have h0:0≤n-q*y:=by
  apply Classical.byContradiction
  intro hc
  have:=Int.mul_neg_of_neg_of_pos (show n-q*y<0 by omega) hp
  omega
 have h1:n-q*y<y:=Int.lt_of_mul_lt_mul_right (by rw[←e2];exact hr1) (Int.le_of_lt hp)
 have hq:n/y=q:=by
  have:n=(n-q*y)+q*y:=by omega
  rw[this,Int.add_mul_ediv_right _ _ (Int.ne_of_gt y0),Int.ediv_eq_zero_of_lt h0 h1,Int.zero_add]
 refine⟨hq,?_⟩
 have:=Int.mul_ediv_add_emod n y
 rw[hq,Int.mul_comm]at this
 omega
theorem and_low32(x:Int)(h0:0≤x)(h1:x<18446744073709551616):bits BinOp.and IntKind.u64 x 4294967295=x%4294967296:=by
 obtain⟨x,rfl⟩:=Int.eq_ofNat_of_zero_le h0
 have h:=bits_and_u64_nat x 4294967295 (by omega) (by omega)
 have e:x&&&4294967295=x%4294967296:=Nat.and_two_pow_sub_one_eq_mod x 32
 rw[e]at h
 rw[show((4294967295:Nat):Int)=4294967295 from rfl]at h
 rw[h]
 omega
theorem aaF{x:Int}(h0:0≤x)(h1:x<18446744073709551616):IntKind.u64.wrap x=x:=by rw[IntKind.wrap_u64];omega
theorem adL{hi lo y:Int}{bl:Nat}(hi0:0<hi)(hy:hi<y)(Dl:0≤lo)(lo1:lo<18446744073709551616)(yW:y<18446744073709551616)(b1:1≤bl)(b2:bl≤64)(y0:2^(bl-1)≤y)(y1:y<2^bl):
 ∃Y U T:Int,IntKind.u64.wrap (y*2^(64-bl))=Y∧bits BinOp.or IntKind.u64 (IntKind.u64.wrap (hi*2^(64-bl))) (lo/2^(64-(64-bl)))=U∧IntKind.u64.wrap (lo*2^(64-bl))=T∧
  y*2^(64-bl)=Y∧9223372036854775808≤Y∧Y<18446744073709551616∧0≤U∧U<Y∧0≤T∧T<18446744073709551616∧(hi*18446744073709551616+lo)*2^(64-bl)=U*18446744073709551616+T:=by
 obtain⟨s,hs⟩: ∃s,64-bl=s:=⟨_,rfl⟩
 obtain rfl:bl=64-s:=by omega
 have hs63:s≤63:=by omega
 rw[show 64-(64-s)=s by omega]at*
 have hp:=au s
 have e64:(2:Int)^(64-s)*2^s=18446744073709551616:=by rw[←Int.pow_add,show 64-s+s=64 by omega];rfl
 have e63:(2:Int)^(64-s-1)*2^s=9223372036854775808:=by rw[←Int.pow_add,show 64-s-1+s=63 by omega];rfl
 have k1:y*2^s<2^(64-s)*2^s:=Int.mul_lt_mul_of_pos_right y1 hp
 have k2:(2:Int)^(64-s-1)*2^s≤y*2^s:=Int.mul_le_mul_of_nonneg_right y0 (Int.le_of_lt hp)
 have k3:hi*2^s<y*2^s:=Int.mul_lt_mul_of_pos_right hy hp
 have k4:0≤hi*2^s:=Int.mul_nonneg (by omega) (Int.le_of_lt hp)
 have hx:=uy lo s hs63 lo1
 have hx0:0≤lo/2^(64-s):=Int.ediv_nonneg Dl (Int.le_of_lt (au _))
 have hor:=H9 (lo/2^(64-s)) hi s hs63 hx0 hx (by omega) (by omega)
 rw[Int.emod_eq_of_lt k4 (by omega)]at hor
 have q1:=Int.mul_ediv_add_emod lo (2^(64-s))
 have q2:=Int.emod_nonneg lo (Int.ne_of_gt (au (64-s)))
 have q3:=Int.emod_lt_of_pos lo (au (64-s))
 have q4:lo*2^s=(lo/2^(64-s))*18446744073709551616+(lo%2^(64-s))*2^s:=by rw[←e64,←Int.mul_assoc,←Int.add_mul];congr 1;rw[Int.mul_comm];omega
 have q5:(lo%2^(64-s))*2^s<2^(64-s)*2^s:=Int.mul_lt_mul_of_pos_right q3 hp
 have q6:0≤(lo%2^(64-s))*2^s:=Int.mul_nonneg q2 (Int.le_of_lt hp)
 have hT:IntKind.u64.wrap (lo*2^s)=(lo%2^(64-s))*2^s:=by rw[IntKind.wrap_u64,q4];omega
 have hUY:hi*2^s+lo/2^(64-s)<y*2^s:=by
  have:=Int.mul_le_mul_of_nonneg_right (show hi+1≤y by omega) (Int.le_of_lt hp)
  rw[Int.add_mul,Int.one_mul]at this
  omega
 refine⟨y*2^s,_,_,aaF (by omega) (by omega),hor,hT,rfl,by omega,by omega,by omega,hUY,q6,by omega,?_⟩
 rw[Int.add_mul,q4]
 grind
theorem Ia{U c q1 Y h l V:Int}(hY:Y=h*4294967296+l)(hV:U*4294967296+c-q1*(h*4294967296+l)=V)(V0:0≤V)(V1:V<18446744073709551616):
 IntKind.u64.wrap (IntKind.u64.wrap (IntKind.u64.wrap (U*4294967296)+c)-IntKind.u64.wrap (q1*Y))=V:=by
 rw[IntKind.wrap_u64,IntKind.wrap_u64,IntKind.wrap_u64,IntKind.wrap_u64]
 rw[←hY]at hV
 generalize q1*Y=p at*
 omega
theorem rJ{w:World}{n y U c d h l V Y q1 q0:Int}{s:Nat}(hn:n*2^s=(U*4294967296+c)*4294967296+d)(hy:y*2^s=h*4294967296+l)(hV:U*4294967296+c-q1*(h*4294967296+l)=V)
 (E1:kw U c h l q1) (E0:kw V d h l q0) (y0:0<y) (hY:Y=h*4294967296+l) (Y1:Y<18446744073709551616):
 jr w (.tuple #[.int .u64 (n/y),.int .u64 (n%y)]) (.returned (.tuple #[.int .u64 (q1*4294967296+q0),.int .u64 (IntKind.u64.wrap (IntKind.u64.wrap (IntKind.u64.wrap (V*4294967296)+d)-IntKind.u64.wrap (q0*Y))/2^s)])) w:=by
 have E0':=E0
 rw[←hV]at E0'
 obtain⟨z1,z2⟩:=ahc hn hy y0 E1 E0'
 obtain⟨v0,v1⟩:=Et E0
 rw[hV]at z2
 have k2:=Ia (q1:=q0) hY rfl v0 (by omega)
 rw[k2,z1,z2]
 exact⟨rfl,aY.refl _⟩
theorem adN(w:World)(hi lo y:Int)(hi0:0<hi)(hy:hi<y)(Dl:0≤lo)(lo1:lo<18446744073709551616)(y1:y<18446744073709551616):
 Calls Tryz.prog 264 #[.int .u64 hi,.int .u64 lo,.int .u64 y] w (jr w (.tuple #[.int .u64 ((hi*18446744073709551616+lo)/y),.int .u64 ((hi*18446744073709551616+lo)%y)])):=by
 obtain⟨s1,s2,s3⟩:=eF (show 0<y by omega)
 have hbl:=nN y1
 obtain⟨Y,U,T,fY,fU,fT,eY,Y0,Y1,U0,U1,T0,T1,eN⟩:=adL hi0 hy Dl lo1 y1 s3 hbl s1 s2
 have HLd:=h_ (fun w=>lead_any y w (by omega) y1)
 have fl:=and_low32 Y (by omega) Y1
 have fd:=and_low32 T T0 T1
 generalize aQ y=bl at*
 obtain⟨h,fh⟩: ∃h,Y/4294967296=h:=⟨_,rfl⟩
 obtain⟨l,hl⟩: ∃l,Y%4294967296=l:=⟨_,rfl⟩
 obtain⟨c,fc⟩: ∃c,T/4294967296=c:=⟨_,rfl⟩
 obtain⟨d,hd⟩: ∃d,T%4294967296=d:=⟨_,rfl⟩
 rw[hl]at fl
 rw[hd]at fd
 have h0:2147483648≤h:=by omega
 have h1:h<4294967296:=by omega
 have l0:0≤l:=by omega
 have l1:l<4294967296:=by omega
 have c0:0≤c:=by omega
 have c1:c<4294967296:=by omega
 have d0:0≤d:=by omega
 have d1:d<4294967296:=by omega
 have Fg:Hid (Y=h*4294967296+l):=h_ (by omega)
 have HY:Hid (y*2^(64-bl)=h*4294967296+l):=h_ (by omega)
 have HN:Hid ((hi*18446744073709551616+lo)*2^(64-bl)=(U*4294967296+c)*4294967296+d):=h_ (by omega)
 have HA:Hid (qh U c h l):=h_ ⟨h0,h1,l0,l1,c0,c1,U0,by omega⟩
 have i1:=AV HA.out
 obtain⟨q,hq⟩: ∃q,U/h=q:=⟨_,rfl⟩
 rw[hq]at i1
 have m0:0≤q*h:=Int.mul_nonneg i1.q0 (by omega)
 have m1:=i1.r0
 have HI1:=h_ i1
 have HQ1:=h_ hq
 have y0:0<y:=by omega
 clear i1 eY eN s1 s2 hl hd
 go_enter Tryz.func264,Tryz.ntmps264
 go_wp2_with (go_at_call 262;refine(HLd.out _).mono ?_;rintro en w' ⟨rfl,rfl⟩)
 clear HLd fY fU fT fl fd fh fc hq m0 m1
 go_loopw [15,16] (fun x z wr=> ∃a b:Int,x=.int .u64 a∧z=.int .u64 b∧Hid (wr=w)∧Hid (kW U c h l a b)) (fun x _ _=>(intOf x).toNat)
 case atStart=>exact⟨q,_,by first|rfl|exact congrArg (Value.int .u64) HQ1.out,rfl,by first|exact h_ rfl|exact h_ trivial,HI1⟩
 case round=>
  clear HI1 HQ1
  obtain⟨a1,b1,rfl,rfl,hwr,hI1⟩:=hrel
  have hwq:=hwr.out
  clear hwr
  subst wr
  have i1a:=hI1.out.q0
  have i1b:=hI1.out.q1
  have i1c:=hI1.out.r0
  have i1d:=hI1.out.r1
  by_cases ca1:4294967296≤a1
  ·by_cases cb1:4294967296≤b1+h
   ·have qN:Hid (kw U c h l (a1-1)):=h_ (oM HA.out hI1.out (.inl ca1) cb1)
    clear hI1
    obtain⟨V0,V1⟩:=Et qN.out
    obtain⟨V,hV⟩: ∃V,U*4294967296+c-(a1-1)*(h*4294967296+l)=V:=⟨_,rfl⟩
    rw[hV]at V0 V1
    have HV:=h_ hV
    have G:=h_ (Ia Fg.out hV V0 (by omega))
    have HA2:Hid (qh V d h l):=h_ ⟨h0,h1,l0,l1,d0,d1,V0,V1⟩
    have i2:=AV HA2.out
    obtain⟨q2,hq2⟩: ∃q2,V/h=q2:=⟨_,rfl⟩
    rw[hq2]at i2
    have m0:0≤q2*h:=Int.mul_nonneg i2.q0 (by omega)
    have m1:=i2.r0
    have HI2:=h_ i2
    have HQ2:=h_ hq2
    clear i2 hV
    go_wp2_with (simp only[G.out])
    clear G hq2 m0 m1
    go_loopw [18,16] (fun x z wr=> ∃a b:Int,x=.int .u64 a∧z=.int .u64 b∧Hid (wr=w)∧Hid (kW V d h l a b)) (fun x _ _=>(intOf x).toNat)
    case atStart=>exact⟨q2,_,by first|rfl|exact congrArg (Value.int .u64) HQ2.out,rfl,by first|exact h_ rfl|exact h_ trivial,HI2⟩
    case round=>
     clear HI2 HQ2
     obtain⟨a0,b0,rfl,rfl,hwr,hI0⟩:=hrel
     have hwq:=hwr.out
     clear hwr
     subst wr
     have i0a:=hI0.out.q0
     have i0b:=hI0.out.q1
     have i0c:=hI0.out.r0
     have i0d:=hI0.out.r1
     by_cases ca0:4294967296≤a0
     ·by_cases cb0:4294967296≤b0+h
      ·have oN:Hid (kw V d h l (a0-1)):=h_ (oM HA2.out hI0.out (.inl ca0) cb0)
       clear hI0
       obtain⟨f0,f1,_,_⟩:=oN.out
       obtain⟨f2,f3,_,_⟩:=qN.out
       go_wp2_with fail
       go_ret2
       exact rJ HN.out HY.out HV.out qN.out oN.out y0 Fg.out Y1
      ·have HI:Hid (kW V d h l (a0-1) (b0+h)):=h_ (qM HA2.out hI0.out (.inl ca0) (by omega))
       clear hI0
       go_wp2_with fail
       go_roundw
       case rel=>exact⟨_,_,rfl,rfl,by first|exact h_ rfl|exact h_ trivial,HI⟩
       case measure=>simp[intOf]<;>omega
     ·have p0a:0≤a0*l:=Int.mul_nonneg i0a l0
      have p0b:a0*l≤4294967295*l:=Int.mul_le_mul_of_nonneg_right (by omega) l0
      by_cases cc0:4294967296*b0+d<a0*l
      ·have cd0:1≤a0:=(vZ HA2.out hI0.out (.inr (by omega))).1
       by_cases cb0:4294967296≤b0+h
       ·have oN:Hid (kw V d h l (a0-1)):=h_ (oM HA2.out hI0.out (.inr (by omega)) cb0)
        clear hI0
        obtain⟨f0,f1,_,_⟩:=oN.out
        obtain⟨f2,f3,_,_⟩:=qN.out
        go_wp2_with fail
        go_ret2
        exact rJ HN.out HY.out HV.out qN.out oN.out y0 Fg.out Y1
       ·have HI:Hid (kW V d h l (a0-1) (b0+h)):=h_ (qM HA2.out hI0.out (.inr (by omega)) (by omega))
        clear hI0
        go_wp2_with fail
        go_roundw
        case rel=>exact⟨_,_,rfl,rfl,by first|exact h_ rfl|exact h_ trivial,HI⟩
        case measure=>simp[intOf]<;>omega
      ·have oN:Hid (kw V d h l a0):=h_ (Es HA2.out hI0.out (by omega))
       clear hI0
       obtain⟨f0,f1,_,_⟩:=oN.out
       obtain⟨f2,f3,_,_⟩:=qN.out
       go_wp2_with fail
       go_ret2
       exact rJ HN.out HY.out HV.out qN.out oN.out y0 Fg.out Y1
   ·have HI:Hid (kW U c h l (a1-1) (b1+h)):=h_ (qM HA.out hI1.out (.inl ca1) (by omega))
    clear hI1
    go_wp2_with fail
    go_roundw
    case rel=>exact⟨_,_,rfl,rfl,by first|exact h_ rfl|exact h_ trivial,HI⟩
    case measure=>simp[intOf]<;>omega
  ·have p1a:0≤a1*l:=Int.mul_nonneg i1a l0
   have p1b:a1*l≤4294967295*l:=Int.mul_le_mul_of_nonneg_right (by omega) l0
   by_cases cc1:4294967296*b1+c<a1*l
   ·have cd1:1≤a1:=(vZ HA.out hI1.out (.inr (by omega))).1
    by_cases cb1:4294967296≤b1+h
    ·have qN:Hid (kw U c h l (a1-1)):=h_ (oM HA.out hI1.out (.inr (by omega)) cb1)
     clear hI1
     obtain⟨V0,V1⟩:=Et qN.out
     obtain⟨V,hV⟩: ∃V,U*4294967296+c-(a1-1)*(h*4294967296+l)=V:=⟨_,rfl⟩
     rw[hV]at V0 V1
     have HV:=h_ hV
     have G:=h_ (Ia Fg.out hV V0 (by omega))
     have HA2:Hid (qh V d h l):=h_ ⟨h0,h1,l0,l1,d0,d1,V0,V1⟩
     have i2:=AV HA2.out
     obtain⟨q2,hq2⟩: ∃q2,V/h=q2:=⟨_,rfl⟩
     rw[hq2]at i2
     have m0:0≤q2*h:=Int.mul_nonneg i2.q0 (by omega)
     have m1:=i2.r0
     have HI2:=h_ i2
     have HQ2:=h_ hq2
     clear i2 hV
     go_wp2_with (simp only[G.out])
     clear G hq2 m0 m1
     go_loopw [18,16] (fun x z wr=> ∃a b:Int,x=.int .u64 a∧z=.int .u64 b∧Hid (wr=w)∧Hid (kW V d h l a b)) (fun x _ _=>(intOf x).toNat)
     case atStart=>exact⟨q2,_,by first|rfl|exact congrArg (Value.int .u64) HQ2.out,rfl,by first|exact h_ rfl|exact h_ trivial,HI2⟩
     case round=>
      clear HI2 HQ2
      obtain⟨a0,b0,rfl,rfl,hwr,hI0⟩:=hrel
      have hwq:=hwr.out
      clear hwr
      subst wr
      have i0a:=hI0.out.q0
      have i0b:=hI0.out.q1
      have i0c:=hI0.out.r0
      have i0d:=hI0.out.r1
      by_cases ca0:4294967296≤a0
      ·by_cases cb0:4294967296≤b0+h
       ·have oN:Hid (kw V d h l (a0-1)):=h_ (oM HA2.out hI0.out (.inl ca0) cb0)
        clear hI0
        obtain⟨f0,f1,_,_⟩:=oN.out
        obtain⟨f2,f3,_,_⟩:=qN.out
        go_wp2_with fail
        go_ret2
        exact rJ HN.out HY.out HV.out qN.out oN.out y0 Fg.out Y1
       ·have HI:Hid (kW V d h l (a0-1) (b0+h)):=h_ (qM HA2.out hI0.out (.inl ca0) (by omega))
        clear hI0
        go_wp2_with fail
        go_roundw
        case rel=>exact⟨_,_,rfl,rfl,by first|exact h_ rfl|exact h_ trivial,HI⟩
        case measure=>simp[intOf]<;>omega
      ·have p0a:0≤a0*l:=Int.mul_nonneg i0a l0
       have p0b:a0*l≤4294967295*l:=Int.mul_le_mul_of_nonneg_right (by omega) l0
       by_cases cc0:4294967296*b0+d<a0*l
       ·have cd0:1≤a0:=(vZ HA2.out hI0.out (.inr (by omega))).1
        by_cases cb0:4294967296≤b0+h
        ·have oN:Hid (kw V d h l (a0-1)):=h_ (oM HA2.out hI0.out (.inr (by omega)) cb0)
         clear hI0
         obtain⟨f0,f1,_,_⟩:=oN.out
         obtain⟨f2,f3,_,_⟩:=qN.out
         go_wp2_with fail
         go_ret2
         exact rJ HN.out HY.out HV.out qN.out oN.out y0 Fg.out Y1
        ·have HI:Hid (kW V d h l (a0-1) (b0+h)):=h_ (qM HA2.out hI0.out (.inr (by omega)) (by omega))
         clear hI0
         go_wp2_with fail
         go_roundw
         case rel=>exact⟨_,_,rfl,rfl,by first|exact h_ rfl|exact h_ trivial,HI⟩
         case measure=>simp[intOf]<;>omega
       ·have oN:Hid (kw V d h l a0):=h_ (Es HA2.out hI0.out (by omega))
        clear hI0
        obtain⟨f0,f1,_,_⟩:=oN.out
        obtain⟨f2,f3,_,_⟩:=qN.out
        go_wp2_with fail
        go_ret2
        exact rJ HN.out HY.out HV.out qN.out oN.out y0 Fg.out Y1
    ·have HI:Hid (kW U c h l (a1-1) (b1+h)):=h_ (qM HA.out hI1.out (.inr (by omega)) (by omega))
     clear hI1
     go_wp2_with fail
     go_roundw
     case rel=>exact⟨_,_,rfl,rfl,by first|exact h_ rfl|exact h_ trivial,HI⟩
     case measure=>simp[intOf]<;>omega
   ·have qN:Hid (kw U c h l a1):=h_ (Es HA.out hI1.out (by omega))
    clear hI1
    obtain⟨V0,V1⟩:=Et qN.out
    obtain⟨V,hV⟩: ∃V,U*4294967296+c-a1*(h*4294967296+l)=V:=⟨_,rfl⟩
    rw[hV]at V0 V1
    have HV:=h_ hV
    have G:=h_ (Ia Fg.out hV V0 (by omega))
    have HA2:Hid (qh V d h l):=h_ ⟨h0,h1,l0,l1,d0,d1,V0,V1⟩
    have i2:=AV HA2.out
    obtain⟨q2,hq2⟩: ∃q2,V/h=q2:=⟨_,rfl⟩
    rw[hq2]at i2
    have m0:0≤q2*h:=Int.mul_nonneg i2.q0 (by omega)
    have m1:=i2.r0
    have HI2:=h_ i2
    have HQ2:=h_ hq2
    clear i2 hV
    go_wp2_with (simp only[G.out])
    clear G hq2 m0 m1
    go_loopw [18,16] (fun x z wr=> ∃a b:Int,x=.int .u64 a∧z=.int .u64 b∧Hid (wr=w)∧Hid (kW V d h l a b)) (fun x _ _=>(intOf x).toNat)
    case atStart=>exact⟨q2,_,by first|rfl|exact congrArg (Value.int .u64) HQ2.out,rfl,by first|exact h_ rfl|exact h_ trivial,HI2⟩
    case round=>
     clear HI2 HQ2
     obtain⟨a0,b0,rfl,rfl,hwr,hI0⟩:=hrel
     have hwq:=hwr.out
     clear hwr
     subst wr
     have i0a:=hI0.out.q0
     have i0b:=hI0.out.q1
     have i0c:=hI0.out.r0
     have i0d:=hI0.out.r1
     by_cases ca0:4294967296≤a0
     ·by_cases cb0:4294967296≤b0+h
      ·have oN:Hid (kw V d h l (a0-1)):=h_ (oM HA2.out hI0.out (.inl ca0) cb0)
       clear hI0
       obtain⟨f0,f1,_,_⟩:=oN.out
       obtain⟨f2,f3,_,_⟩:=qN.out
       go_wp2_with fail
       go_ret2
       exact rJ HN.out HY.out HV.out qN.out oN.out y0 Fg.out Y1
      ·have HI:Hid (kW V d h l (a0-1) (b0+h)):=h_ (qM HA2.out hI0.out (.inl ca0) (by omega))
       clear hI0
       go_wp2_with fail
       go_roundw
       case rel=>exact⟨_,_,rfl,rfl,by first|exact h_ rfl|exact h_ trivial,HI⟩
       case measure=>simp[intOf]<;>omega
     ·have p0a:0≤a0*l:=Int.mul_nonneg i0a l0
      have p0b:a0*l≤4294967295*l:=Int.mul_le_mul_of_nonneg_right (by omega) l0
      by_cases cc0:4294967296*b0+d<a0*l
      ·have cd0:1≤a0:=(vZ HA2.out hI0.out (.inr (by omega))).1
       by_cases cb0:4294967296≤b0+h
       ·have oN:Hid (kw V d h l (a0-1)):=h_ (oM HA2.out hI0.out (.inr (by omega)) cb0)
        clear hI0
        obtain⟨f0,f1,_,_⟩:=oN.out
        obtain⟨f2,f3,_,_⟩:=qN.out
        go_wp2_with fail
        go_ret2
        exact rJ HN.out HY.out HV.out qN.out oN.out y0 Fg.out Y1
       ·have HI:Hid (kW V d h l (a0-1) (b0+h)):=h_ (qM HA2.out hI0.out (.inr (by omega)) (by omega))
        clear hI0
        go_wp2_with fail
        go_roundw
        case rel=>exact⟨_,_,rfl,rfl,by first|exact h_ rfl|exact h_ trivial,HI⟩
        case measure=>simp[intOf]<;>omega
      ·have oN:Hid (kw V d h l a0):=h_ (Es HA2.out hI0.out (by omega))
       clear hI0
       obtain⟨f0,f1,_,_⟩:=oN.out
       obtain⟨f2,f3,_,_⟩:=qN.out
       go_wp2_with fail
       go_ret2
       exact rJ HN.out HY.out HV.out qN.out oN.out y0 Fg.out Y1
end Go.Proofs.YtnapiakfbihnjaaGreatDoor
namespace Go.Proofs.YtnapiakfbihnjaaGreatDoor
open Go.RowKit Go.Shelf Tryz
theorem aaG(w:World)(lo y:Int)(Dl:0≤lo)(lo1:lo<18446744073709551616)(y0:0<y)(y1:y<18446744073709551616):
 Calls prog 264 #[.int .u64 0,.int .u64 lo,.int .u64 y] w (jr w (.tuple #[.int .u64 (lo/y),.int .u64 (lo%y)])):=by
 have e1:0≤lo/y:=Int.ediv_nonneg Dl (by omega)
 have e2:lo/y≤lo:=Int.ediv_le_self _ Dl
 have e3:0≤lo%y:=Int.emod_nonneg _ (by omega)
 have e4:lo%y<y:=Int.emod_lt_of_pos _ y0
 have hq:IntKind.u64.wrap (lo.tdiv y)=lo/y:=by rw[Int.tdiv_eq_ediv_of_nonneg Dl];exact aaF e1 (by omega)
 have hm:lo.tmod y=lo%y:=Int.tmod_eq_emod_of_nonneg Dl
 have hm2:IntKind.u64.wrap (lo%y)=lo%y:=aaF e3 (by omega)
 have hy:(y==0)=false:=by simpa using show y≠0 by omega
 go_enter func264,ntmps264
 go_wp2_with fail
 go_region
 all_goals go_wp2_with fail
 all_goals go_ret2
 all_goals exact⟨rfl,by first|exact aY.refl _|exact aY.step _ _|exact(aY.step _ _).trans (aY.step _ _)⟩
theorem Gs(w:World)(hi lo y:Int)(hi0:0≤hi)(hy:hi<y)(Dl:0≤lo)(lo1:lo<18446744073709551616)(y1:y<18446744073709551616):
 Calls prog 264 #[.int .u64 hi,.int .u64 lo,.int .u64 y] w (jr w (.tuple #[.int .u64 ((hi*18446744073709551616+lo)/y),.int .u64 ((hi*18446744073709551616+lo)%y)])):=by
 by_cases h:hi=0
 ·subst h
  rw[Int.zero_mul,Int.zero_add]
  exact aaG w lo y Dl lo1 (by omega) y1
 ·exact adN w hi lo y (by omega) hy Dl lo1 y1
theorem ik(zs:List Int)(i:Nat):nv (zs.drop i)=gd zs i+pw*nv (zs.drop (i+1)):=by
 induction i generalizing zs with
 |zero=>cases zs<;>simp[nv,gd]
 |succ i ih=>
  cases zs with
  |nil=>simp[nv,gd]
  |cons z zs=>
   have:=ih zs
   simpa [gd]using this
structure Lh(g:Nat)(za:List Int)(f:Int)(m:Nat)(w:World)(r:Int)(L:List Int):Prop where
 len:L.length=za.length
 wd:Wd L
 val:nv (L.drop m)*f+r=nv (za.drop m)
 low: ∀j,j<m→gd L j=0
 blk:bH w g L
theorem aaH{g:Nat}{za:List Int}{f:Int}{w:World}(h:bH w g (List.replicate za.length 0)):Lh g za f za.length w 0 (List.replicate za.length 0):=
 ⟨List.length_replicate,fA _,by rw[List.drop_eq_nil_of_le (by simp),List.drop_eq_nil_of_le (Nat.le_refl _)];simp[nv],fun j _=>nS _ j,h⟩
theorem adO{g:Nat}{za:List Int}{f r:Int}{m:Nat}{w w2:World}{L:List Int}(hm:m<za.length)(h:Lh g za f (m+1) w r L)(f0:0<f)(q0:0≤(r*18446744073709551616+gd za m)/f)(q1:(r*18446744073709551616+gd za m)/f<18446744073709551616)
 (hB:bH w2 g (L.set m ((r*18446744073709551616+gd za m)/f))):Lh g za f m w2 ((r*18446744073709551616+gd za m)%f) (L.set m ((r*18446744073709551616+gd za m)/f)):=by
 refine⟨by simp[h.len],jY h.wd ⟨q0,q1⟩,?_,fun j hj=>by rw[fD (by omega)];exact h.low j (by omega),hB⟩
 have hd:(L.set m ((r*18446744073709551616+gd za m)/f)).drop (m+1)=L.drop (m+1):=by
  rw[List.drop_set_of_lt (by omega)]
 have hv:=h.val
 rw[ik,ik za m,hd,oO (by rw[h.len];exact hm),←hv,show pw=18446744073709551616 from rfl]
 have e:=Int.mul_ediv_add_emod (r*18446744073709551616+gd za m) f
 generalize (r*18446744073709551616+gd za m)/f=q at*
 generalize (r*18446744073709551616+gd za m)%f=s at*
 have:s=r*18446744073709551616+gd za m-f*q:=by omega
 rw[this];grind
def TB(w:World)(x f:Int)(e:Ending)(w':World):Prop:= ∃v,e=.returned (.tuple #[v,.int .u64 (x%f)])∧Nt w' v (x/f)∧Below w.heap.size w w'
theorem Jz(w:World)(b off cap:Nat)(za:List Int)(x f:Int)(ha:Ns w b off cap za x)(hx:x<big)(f0:0<f)(f1:f<18446744073709551616):
 Calls prog 229 #[.slice (some ⟨b,off,none⟩) za.length cap,.int .u64 f] w (TB w x f):=by
 have hl:=ha.len hx
 have hcap:=ha.cap
 have hpos:=ha.pos
 have HLT:=h_ ha.lt
 have H:=h_ ha
 clear ha hx
 obtain⟨l,hl'⟩: ∃l,za.length=l:=⟨_,rfl⟩
 have HL:=h_ hl'
 rw[hl']at hl hcap hpos⊢
 clear hl'
 obtain⟨i0,hi,hz0,hz1,hz2⟩:=info_parts wO
 go_enter func229,ntmps229
 go_wp2_with (at_make;refine wpList_make_full w rfl (.tmp 10) (.tmp 10) 43 rfl w.heap.size 24 i0 (.int .u64 0) 1 underlying43 hi hz0 hz1 .i64 .i64 _ _ l rfl rfl (by omega) (by omega) (by rw[hz2];omega) (by unfold maxLen;omega) (Nat.le_refl _) ?_;intro w1 hown hgrow;have hblk:=h_ (jV hown);have hbel:=h_ (gV hgrow);clear hown hgrow hi hz0 hz1 hz2)
 generalize hg:w.heap.size=g at hblk hbel
 have HG:=h_ hg
 clear hg
 go_loopw [7,8] (fun u v wr=> ∃(m:Nat) (r:Int),m≤l∧0≤r∧r<f∧u=.int .u64 r∧v=.int .i64 ((m:Int)-1)∧Hid (Below g w wr∧ ∃L,Lh g za f m wr r L)) (fun _ v _=>(intOf v+1).toNat)
 case atStart=>exact⟨l,0,Nat.le_refl _,by omega,f0,rfl,rfl,h_ ⟨hbel.out,_,by have h:=aaH (za:=za) (f:=f) (w:=w1) (g:=g) (by rw[HL.out];exact hblk.out);rw[HL.out]at h;exact h⟩⟩
 case round=>
  obtain⟨m,r,hml,r0,r1,rfl,rfl,hr⟩:=hrel
  rcases m with _|m
  ·obtain⟨hbw,L,hL⟩:=hr.out
   have HH:=h_ hL
   have HBw:=h_ hbw
   clear hr hL hbw
   have hcut:=oC g 0 l L wr (by rw[HH.out.len,HL.out];omega) (by rw[HH.out.len,HL.out];exact Nat.le_refl _) HH.out.blk.row
   rw[HH.out.len,HL.out]at hcut
   have HC:=h_ hcut
   clear hcut
   rw[show(((0:Nat):Int)-1)= -1 from rfl]
   go_wp2_with fail
   refine HC.out.mono ?_
   rintro e w' ⟨rfl,m',hm1,hm2,hm3,rfl⟩
   go_wp2_with fail
   go_ret2
   have hv:=HH.out.val
   rw[List.drop_zero,List.drop_zero,H.out.val]at hv
   have hq:x/f=nv L:=by
    rw[←hv,Int.add_comm,Int.add_mul_ediv_right _ _ (by omega),Int.ediv_eq_zero_of_lt r0 r1,Int.zero_add]
   have hm:x%f=r:=by
    rw[←hv,Int.add_comm,Int.add_mul_emod_self_right,Int.emod_eq_of_lt r0 r1]
   refine⟨Gt ⟨g,0,none⟩ l m',by rw[hm];rfl,?_,by rw[HG.out];exact HBw.out⟩
   rw[hq]
   exact qG HH.out.blk.row HH.out.blk.lt HH.out.blk.ty HH.out.wd (by rw[HH.out.len,HL.out];exact Nat.le_refl _) m' hm1 hm2 hm3
  ·obtain⟨hbw,L,hL⟩:=hr.out
   have cA:=(hbw.cell (p:=⟨b,off+m,none⟩) (by have:=HLT.out;have:=HG.out;simp;omega)).trans (H.out.row m (by rw[HL.out];omega))
   have HI:=h_ hL
   have HBw:=h_ hbw
   obtain⟨a0,a1⟩:=aI H.out.wd m
   have HC:=h_ (fun wx=>Gs wx r (gd za m) f r0 r1 a0 a1 f1)
   have q0:0≤(r*18446744073709551616+gd za m)/f:=Int.ediv_nonneg (by omega) (by omega)
   have q1:(r*18446744073709551616+gd za m)/f<18446744073709551616:=by
    refine Int.ediv_lt_of_lt_mul f0 ?_
    have:=Int.mul_le_mul_of_nonneg_left (show r+1≤f by omega) (show(0:Int)≤18446744073709551616 by decide)
    omega
   have e0:0≤(r*18446744073709551616+gd za m)%f:=Int.emod_nonneg _ (by omega)
   have e1:(r*18446744073709551616+gd za m)%f<f:=Int.emod_lt_of_pos _ f0
   have HQ:=h_ (And.intro q0 (And.intro q1 (And.intro e0 e1)))
   have hcast:(((m+1:Nat):Int)-1)=m:=by omega
   rw[hcast]
   clear hr hL hbw a0 a1 q0 q1 e0 e1 hcast
   go_wp2_with (go_at_call 264;refine(HC.out _).mono ?_;rintro e w' ⟨rfl,hd⟩;have cO:=(HI.out.blk.Dp hd).cell m (by rw[HI.out.len,HL.out];omega);have fO:=(HI.out.blk.Dp hd).frozen m;have HD:=h_ hd;clear hd)
   go_roundw
   case rel=>exact⟨m,_,by omega,HQ.out.2.2.1,HQ.out.2.2.2,rfl,by go_num,h_ ⟨gQ (HBw.out.trans (HD.out.below _)) (Nat.le_refl _) _ _,_,adO (by rw[HL.out];omega) HI.out f0 HQ.out.1 HQ.out.2.1 ((HI.out.blk.Dp HD.out).set _ _)⟩⟩
   case measure=>simp[intOf]<;>omega
end Go.Proofs.YtnapiakfbihnjaaGreatDoor
namespace Go.Proofs.YtnapiakfbihnjaaGreatDoor
open Go.RowKit Go.Shelf
structure uA(g o:Nat)(M zb:List Int)(f:Int)(i:Nat)(w:World)(c:Int)(M':List Int):Prop where
 len:M'.length=M.length
 wd:Wd M'
 val:nv M'=nv M-pw^o*(nv (zb.take i)*f)+pw^(o+i)*c
 same: ∀j,j<o∨o+i≤j→gd M' j=gd M j
 blk:bH w g M'
theorem aaI{g o:Nat}{M zb:List Int}{f:Int}{w:World}(h:bH w g M)(hM:Wd M):uA g o M zb f 0 w 0 M:=
 ⟨rfl,hM,by simp[nv],fun j _=>rfl,h⟩
theorem OG{g o:Nat}{M zb M':List Int}{f c hi lo:Int}{i:Nat}{w w2:World}(hn:o+i<M.length)(h:uA g o M zb f i w c M')(hp:gd zb i*f=hi*18446744073709551616+lo)
 (hB:bH w2 g (M'.set (o+i) ((gd M' (o+i)-(lo+c)%18446744073709551616)%18446744073709551616))):
 uA g o M zb f (i+1) w2 (hi+(lo+c)/18446744073709551616+pU (gd M' (o+i)) ((lo+c)%18446744073709551616)) (M'.set (o+i) ((gd M' (o+i)-(lo+c)%18446744073709551616)%18446744073709551616)):=by
 obtain⟨a0,a1⟩:=aI h.wd (o+i)
 refine⟨by simp[h.len],jY h.wd ⟨Int.emod_nonneg _ (by omega),Int.emod_lt_of_pos _ (by omega)⟩,?_,?_,hB⟩
 ·rw[lV _ _ _ (by rw[h.len];exact hn),h.val,dE,show o+(i+1)=o+i+1 by omega,Int.pow_succ,Int.pow_add,show pw=18446744073709551616 from rfl,Int.add_mul,Int.mul_assoc (18446744073709551616^i) (gd zb i) f,hp]
  have e1:=Int.mul_ediv_add_emod (lo+c) 18446744073709551616
  have r0:=Int.emod_nonneg (lo+c) (show(18446744073709551616:Int)≠0 by decide)
  have r1:=Int.emod_lt_of_pos (lo+c) (show(0:Int)<18446744073709551616 by decide)
  generalize (lo+c)/18446744073709551616=q at*
  generalize (lo+c)%18446744073709551616=r at*
  have e2:=Lc (gd M' (o+i)) r a0 a1 r0 (by omega)
  generalize pU (gd M' (o+i)) r=b at*
  generalize (gd M' (o+i)-r)%18446744073709551616=r2 at*
  have h1:r=lo+c-18446744073709551616*q:=by omega
  have h2:r2=gd M' (o+i)-r+18446744073709551616*b:=by omega
  rw[h2,h1];grind
 ·intro j hj
  rw[fD (by omega)]
  exact h.same j (by omega)
theorem aaL{g o:Nat}{M zb M':List Int}{f c:Int}{i:Nat}{w w2:World}(hn:o+i<M.length)(h:uA g o M zb f i w c M')(hz:gd zb i=0)(c0:0≤c)(c1:c<18446744073709551616)
 (hB:bH w2 g (M'.set (o+i) ((gd M' (o+i)-c)%18446744073709551616))):
 uA g o M zb f (i+1) w2 (pU (gd M' (o+i)) c) (M'.set (o+i) ((gd M' (o+i)-c)%18446744073709551616)):=by
 have h2:=OG (hi:=0) (lo:=0) (w2:=w2) hn h (by rw[hz];omega) (by rw[show(0+c)%18446744073709551616=c by omega];exact hB)
 rw[show(0+c)%18446744073709551616=c by omega,show(0+c)/18446744073709551616=0 by omega,Int.add_zero,Int.zero_add]at h2
 exact h2
def JA(w:World)(g o n:Nat)(M:List Int)(y:Int)(e:Ending)(w':World):Prop:=
 ∃(c:Int) (M':List Int),0≤c∧c<18446744073709551616∧e=.returned (.int .u64 c)∧Only g w w'∧M'.length=M.length∧Wd M'∧nv M'=nv M-pw^o*y+pw^(o+n)*c∧(∀j,j<o∨o+n≤j→gd M' j=gd M j)∧bH w' g M'
theorem AX(w:World)(g o n cap:Nat)(M:List Int)(hB:bH w g M)(hM:Wd M)(b off cap2:Nat)(zb:List Int)(hon:o+n≤M.length)(hMl:M.length≤10000)(hl:zb.length≤n)(hcap:zb.length≤cap2)
 (hwd:Wd zb) (hr:Row w b off zb) (hne:b≠g) (f:Int) (f0:0≤f) (f1:f<18446744073709551616):
 Calls Tryz.prog 266 #[.slice (some ⟨g,o,none⟩) n cap,.slice (some ⟨b,off,none⟩) zb.length cap2,.int .u64 f] w (JA w g o n M (nv zb*f)):=by
 have HM:=h_ (And.intro hB hM)
 have HW:=h_ hwd
 have HR:=h_ hr
 clear hB hM hwd hr
 obtain⟨m,hm⟩: ∃m,M.length=m:=⟨_,rfl⟩
 have Hm:=h_ hm
 rw[hm]at hon hMl
 clear hm
 obtain⟨l,hl'⟩: ∃l,zb.length=l:=⟨_,rfl⟩
 have HL:=h_ hl'
 rw[hl']at hl hcap⊢
 clear hl'
 have HF: ∀(k:Nat) (c:Int) (wr:World),l≤k→k≤n→0≤c→c<18446744073709551616→(c=0∨k=n)→Hid (Only g w wr∧ ∃M',uA g o M zb f k wr c M')→JA w g o n M (nv zb*f) (.returned (.int .u64 c)) wr:=by
  intro k c wr h1 h2 h3 h4 h5 h6
  obtain⟨h7,M',h8⟩:=h6.out
  refine⟨c,M',h3,h4,rfl,h7,h8.len,h8.wd,?_,fun j hj=>h8.same j (by omega),h8.blk⟩
  rw[h8.val,List.take_of_length_le (by rw[HL.out];exact h1)]
  rcases h5 with rfl|rfl
  ·simp
  ·rfl
 have HFF:=h_ HF
 clear HF
 go_enter Tryz.func266,Tryz.ntmps266
 go_wp2_with fail
 go_loopw [7,16] (fun u v wr=> ∃(i:Nat) (c:Int),i≤l∧0≤c∧c<18446744073709551616∧u=.int .u64 c∧v=.int .i64 i∧Hid (Only g w wr∧ ∃M',uA g o M zb f i wr c M')) (fun _ v _=>l-(intOf v).toNat)
 case atStart=>exact⟨0,0,Nat.zero_le _,by omega,by omega,rfl,rfl,h_ ⟨Only.refl _ _,_,aaI HM.out.1 HM.out.2⟩⟩
 case round=>
  obtain⟨i,c,him,c0,c1,rfl,rfl,hr⟩:=hrel
  by_cases hlt:i<l
  ·obtain⟨qH,M',hI⟩:=hr.out
   have cA:=qH.cell (HR.out i (by rw[HL.out];omega)) hne
   have cO:=hI.blk.cell (o+i) (by rw[hI.len,Hm.out];omega)
   have fO:=hI.blk.frozen (o+i)
   have HI:=h_ hI
   have HO:=h_ qH
   obtain⟨a0,a1⟩:=aI hI.wd (o+i)
   obtain⟨b0,b1⟩:=aI HW.out i
   obtain⟨hi,lo,p0,p1,p2,p3,p4,p5,hc⟩:=qO (gd zb i) f b0 b1 f0 f1
   have HC:=h_ hc
   have HP:=h_ p4
   have q0:0≤(lo+c)%18446744073709551616:=Int.emod_nonneg _ (by decide)
   have q1:(lo+c)%18446744073709551616<18446744073709551616:=Int.emod_lt_of_pos _ (by decide)
   have HA:=h_ (Dk lo c p2 c0)
   have HA2:=h_ (vX (gd M' (o+i)) ((lo+c)%18446744073709551616) a0 q0 q1)
   have Ny:=uM (gd M' (o+i)) ((lo+c)%18446744073709551616)
   have hw1:hi+(lo+c)/18446744073709551616<18446744073709551616:=by omega
   have hw2:hi+(lo+c)/18446744073709551616+pU (gd M' (o+i)) ((lo+c)%18446744073709551616)<18446744073709551616:=by
    by_cases hz:(lo+c)%18446744073709551616=0
    ·have:pU (gd M' (o+i)) ((lo+c)%18446744073709551616)=0:=by unfold pU;rw[hz,if_neg (by omega)]
     omega
    ·omega
   have HN:Hid (0≤hi+(lo+c)/18446744073709551616+pU (gd M' (o+i)) ((lo+c)%18446744073709551616)∧hi+(lo+c)/18446744073709551616+pU (gd M' (o+i)) ((lo+c)%18446744073709551616)<18446744073709551616):=h_ ⟨by omega,hw2⟩
   have HW1:Hid (IntKind.u64.wrap (hi+(lo+c)/18446744073709551616)=hi+(lo+c)/18446744073709551616):=h_ (by rw[IntKind.wrap_u64];omega)
   have HW2:Hid (IntKind.u64.wrap (hi+(lo+c)/18446744073709551616+pU (gd M' (o+i)) ((lo+c)%18446744073709551616))=hi+(lo+c)/18446744073709551616+pU (gd M' (o+i)) ((lo+c)%18446744073709551616)):=h_ (by rw[IntKind.wrap_u64];omega)
   clear hr hI qH hc p0 p1 p2 p3 p4 p5 q0 q1 hw1 hw2 a0 a1 b0 b1 Ny
   have HE:Hid ((gd M' (o+i)-(lo+c)%18446744073709551616)%18446744073709551616=(gd M' (o+i)-(lo+c))%18446744073709551616):=h_ (by omega)
   go_wp2_with (first|(go_at_call 246;refine(HC.out _).mono ?_;rintro e w' ⟨rfl,rfl⟩)|simp only[HA.out]|simp only[HA2.out])
   go_roundw
   case rel=>exact⟨i+1,_,by omega,HN.out.1,HN.out.2,by rw[HW1.out,HW2.out],by go_num,h_ ⟨HO.out.set _ _,_,OG (by rw[Hm.out];omega) HI.out HP.out (by rw[HE.out];exact HI.out.blk.set _ _)⟩⟩
   case measure=>simp[intOf]<;>omega
  ·have hie:i=l:=by omega
   subst hie
   clear hlt him
   go_wp2_with fail
   go_loopw [7,13] (fun u v wr=> ∃(k:Nat) (c:Int),i≤k∧k≤n∧0≤c∧c<18446744073709551616∧u=.int .u64 c∧v=.int .i64 k∧Hid (Only g w wr∧ ∃M',uA g o M zb f k wr c M')) (fun _ v _=>n-(intOf v).toNat)
   case atStart=>exact⟨i,c,Nat.le_refl _,hl,c0,c1,rfl,rfl,hr⟩
   case round=>
    clear hr c0 c1
    obtain⟨k,c,hik,hkn,c0,c1,rfl,rfl,hr⟩:=hrel
    by_cases hc0:c=0
    ·subst hc0
     go_wp2_with fail
     go_ret
     exact HFF.out k 0 _ hik hkn (by omega) (by omega) (.inl rfl) hr
    ·by_cases hlt:k<n
     ·obtain⟨qH,M',hI⟩:=hr.out
      have cO:=hI.blk.cell (o+k) (by rw[hI.len,Hm.out];omega)
      have fO:=hI.blk.frozen (o+k)
      have HI:=h_ hI
      have HO:=h_ qH
      obtain⟨a0,a1⟩:=aI hI.wd (o+k)
      have HA2:=h_ (vX (gd M' (o+k)) c a0 c0 c1)
      have Ny:=uM (gd M' (o+k)) c
      clear hr hI qH a0 a1
      go_wp2_with (simp only[HA2.out])
      go_roundw
      case rel=>exact⟨k+1,_,by omega,by omega,Ny.1,by omega,rfl,by go_num,h_ ⟨HO.out.set _ _,_,aaL (by rw[Hm.out];omega) HI.out (iL (by rw[HL.out];omega)) c0 c1 (HI.out.blk.set _ _)⟩⟩
      case measure=>simp[intOf]<;>omega
     ·go_wp2_with fail
      go_ret
      exact HFF.out k c _ hik hkn c0 c1 (.inr (by omega)) hr
end Go.Proofs.YtnapiakfbihnjaaGreatDoor
namespace Go.Proofs.YtnapiakfbihnjaaGreatDoor
open Go.RowKit Go.Shelf Tryz
structure oP(a2 a1 a0 b1 b0:Int):Prop where
 x0:0≤a2
 x1:0≤a1
 x2:a1<18446744073709551616
 x3:0≤a0
 x4:a0<18446744073709551616
 y0:9223372036854775808≤b1
 y1:b1<18446744073709551616
 y2:0≤b0
 y3:b0<18446744073709551616
 le:a2*18446744073709551616+a1≤b1*18446744073709551616+b0
def Ib(a2 a1 a0 b1 b0 g:Int):Prop:=(a2*18446744073709551616+a1)*18446744073709551616+a0<(g+1)*(b1*18446744073709551616+b0)∨g=18446744073709551615
def pz(a2 a1 a0 b1 b0 g:Int):Prop:=0≤g∧g<18446744073709551616∧g*(b1*18446744073709551616+b0)≤(a2*18446744073709551616+a1)*18446744073709551616+a0∧Ib a2 a1 a0 b1 b0 g
structure pF(a2 a1 a0 b1 b0 g r hi lo:Int):Prop where
 eqr:g*b1+r=a2*18446744073709551616+a1
 YI:g*b0=hi*18446744073709551616+lo
 g0:0≤g
 g1:g<18446744073709551616
 r0:0≤r
 r1:r<18446744073709551616
 h0:0≤hi
 h1:hi<18446744073709551616
 l0:0≤lo
 l1:lo<18446744073709551616
 up:Ib a2 a1 a0 b1 b0 g
theorem aaM{a2 a1 a0 b1 b0 g r:Int}(A:oP a2 a1 a0 b1 b0)(h:g*b1+r=a2*18446744073709551616+a1)(hr:r<b1)(g0:0≤g):Ib a2 a1 a0 b1 b0 g:=by
 left
 have e1:(g+1)*(b1*18446744073709551616+b0)=(g*b1+b1)*18446744073709551616+(g+1)*b0:=by grind
 have e2:0≤(g+1)*b0:=Int.mul_nonneg (by omega) A.y2
 have:=A.x4
 rw[e1];omega
theorem rM{a2 a1 a0 b1 b0 g r hi lo:Int}(A:oP a2 a1 a0 b1 b0)(I:pF a2 a1 a0 b1 b0 g r hi lo)(hc:r<hi∨hi=r∧a0<lo):1≤g∧Ib a2 a1 a0 b1 b0 (g-1):=by
 obtain⟨eqr,YI,g0,g1,r0,r1,h0,h1,l0,l1,up⟩:=I
 have x3:=A.x3
 have x4:=A.x4
 have hm:r*18446744073709551616+a0<g*b0:=by rw[YI];omega
 constructor
 ·apply Classical.byContradiction
  intro hq
  have:g=0:=by omega
  rw[this,Int.zero_mul]at hm
  omega
 ·left
  rw[show g-1+1=g by omega]
  have e1:g*(b1*18446744073709551616+b0)=g*b1*18446744073709551616+g*b0:=by grind
  rw[e1];omega
theorem wV{a2 a1 a0 b1 b0 g r hi lo:Int}(A:oP a2 a1 a0 b1 b0)(I:pF a2 a1 a0 b1 b0 g r hi lo)(hc:r<hi∨hi=r∧a0<lo)(hr:18446744073709551616≤r+b1):pz a2 a1 a0 b1 b0 (g-1):=by
 obtain⟨k0,k1⟩:=rM A I hc
 obtain⟨eqr,YI,g0,g1,r0,r1,h0,h1,l0,l1,up⟩:=I
 refine⟨by omega,by omega,?_,k1⟩
 have e1:(g-1)*(b1*18446744073709551616+b0)=g*b1*18446744073709551616-b1*18446744073709551616+(g-1)*b0:=by grind
 have e2:(g-1)*b0≤18446744073709551615*b0:=Int.mul_le_mul_of_nonneg_right (by omega) A.y2
 have:=A.y3
 have:=A.x3
 rw[e1];omega
theorem yL{a2 a1 a0 b1 b0 g r hi lo:Int}(A:oP a2 a1 a0 b1 b0)(I:pF a2 a1 a0 b1 b0 g r hi lo)(hc:r<hi∨hi=r∧a0<lo)(hr:r+b1<18446744073709551616):
 0≤hi-pU lo b0∧pF a2 a1 a0 b1 b0 (g-1) (r+b1) (hi-pU lo b0) ((lo-b0)%18446744073709551616):=by
 obtain⟨k0,k1⟩:=rM A I hc
 obtain⟨eqr,YI,g0,g1,r0,r1,h0,h1,l0,l1,up⟩:=I
 have y0:=A.y0
 have e:=Lc lo b0 l0 l1 A.y2 (by have:=A.y3;omega)
 have b01:=uM lo b0
 have m0:0≤(g-1)*b0:=Int.mul_nonneg (by omega) A.y2
 have m1:(g-1)*b0=g*b0-b0:=by rw[Int.sub_mul,Int.one_mul]
 have n0:=Int.emod_nonneg (lo-b0) (show(18446744073709551616:Int)≠0 by decide)
 have n1:=Int.emod_lt_of_pos (lo-b0) (show(0:Int)<18446744073709551616 by decide)
 generalize (lo-b0)%18446744073709551616=z at*
 generalize pU lo b0=t at*
 have hh:0≤hi-t:=by omega
 refine⟨hh,by rw[Int.sub_mul,Int.one_mul];omega,by omega,by omega,by omega,by omega,hr,hh,by omega,n0,n1,k1⟩
theorem yM{a2 a1 a0 b1 b0 g r hi lo:Int}(A:oP a2 a1 a0 b1 b0)(I:pF a2 a1 a0 b1 b0 g r hi lo)(hc: ¬(r<hi∨hi=r∧a0<lo)):pz a2 a1 a0 b1 b0 g:=by
 have x3:=A.x3
 obtain⟨eqr,YI,g0,g1,r0,r1,h0,h1,l0,l1,up⟩:=I
 refine⟨g0,g1,?_,up⟩
 have e1:g*(b1*18446744073709551616+b0)=g*b1*18446744073709551616+g*b0:=by grind
 have hle:hi*18446744073709551616+lo≤r*18446744073709551616+a0∨a0<0:=by omega
 rw[e1,YI,show g*b1=a2*18446744073709551616+a1-r by omega]
 generalize a2*18446744073709551616+a1=t at*
 omega
theorem aaN{a2 a1 a0 b1 b0:Int}(A:oP a2 a1 a0 b1 b0)(h:b1≤a2)(hr:18446744073709551616≤a1+b1):pz a2 a1 a0 b1 b0 18446744073709551615:=by
 obtain⟨x0,x1,x2,x3,x4,y0,y1,y2,y3,le⟩:=A
 refine⟨by omega,by omega,by omega,.inr rfl⟩
theorem Qw(w:World){a2 a1 a0 b1 b0:Int}(A:oP a2 a1 a0 b1 b0):
 Calls prog 265 #[.int .u64 a2,.int .u64 a1,.int .u64 a0,.int .u64 b1,.int .u64 b0] w fun e w'=> ∃g,e=.returned (.int .u64 g)∧pz a2 a1 a0 b1 b0 g∧aY w w':=by
 have HA:=h_ A
 obtain⟨x0,x1,x2,x3,x4,y0,y1,y2,y3,le⟩:=A
 by_cases hlt:a2<b1
 ·obtain⟨g,hg⟩: ∃g,(a2*18446744073709551616+a1)/b1=g:=⟨_,rfl⟩
  obtain⟨r,hr⟩: ∃r,(a2*18446744073709551616+a1)%b1=r:=⟨_,rfl⟩
  have HC:=h_ (fun wx=>Gs wx a2 a1 b1 x0 hlt x1 x2 y1)
  rw[hg,hr]at HC
  have e:=Int.mul_ediv_add_emod (a2*18446744073709551616+a1) b1
  have r0:=Int.emod_nonneg (a2*18446744073709551616+a1) (show b1≠0 by omega)
  have r1:=Int.emod_lt_of_pos (a2*18446744073709551616+a1) (show 0<b1 by omega)
  have g0:0≤(a2*18446744073709551616+a1)/b1:=Int.ediv_nonneg (by omega) (by omega)
  rw[hg,Int.mul_comm]at e
  rw[hr]at e r0 r1
  rw[hg]at g0
  have g1:g<18446744073709551616:=by
   apply Classical.byContradiction
   intro hc
   have:=Int.mul_le_mul_of_nonneg_right (show 18446744073709551616≤g by omega) (show 0≤b1 by omega)
   omega
  obtain⟨hi,lo,p0,p1,p2,p3,p4,p5,hm⟩:=qO g b0 g0 g1 y2 y3
  have HM:=h_ hm
  have HI:Hid (pF a2 a1 a0 b1 b0 g r hi lo):=h_ ⟨e,p4,g0,g1,r0,by omega,p0,by omega,p2,p3,aaM HA.out e r1 g0⟩
  clear hg hr e hm p4 p5 le
  go_enter func265,ntmps265
  go_wp2_with (first|(go_at_call 264;refine(HC.out _).mono ?_;rintro en w' ⟨rfl,hd⟩;have HD:=h_ hd;clear hd)|(go_at_call 246;refine(HM.out _).mono ?_;rintro en w2 ⟨rfl,hw2⟩;subst w2))
  clear HC HM hlt p0 p1 p2 p3 r0 r1 g0 g1
  go_loopw [11,12,13,14] (fun u1 u2 u3 u4 wr=> ∃g r hi lo:Int,u1=.int .u64 g∧u2=.int .u64 r∧u3=.int .u64 hi∧u4=.int .u64 lo∧Hid (aY w wr)∧Hid (pF a2 a1 a0 b1 b0 g r hi lo)) (fun u1 _ _ _ _=>(intOf u1).toNat)
  case atStart=>exact⟨_,_,_,_,rfl,rfl,rfl,rfl,HD,HI⟩
  case round=>
   clear HD HI
   obtain⟨g,r,hi,lo,rfl,rfl,rfl,rfl,hd,hI⟩:=hrel
   have i0:=hI.out.g0
   have i1:=hI.out.g1
   have i2:=hI.out.r0
   have i3:=hI.out.r1
   have i4:=hI.out.h0
   have i5:=hI.out.h1
   by_cases c1:r<hi
   ·have g1:1≤g:=(rM HA.out hI.out (.inl c1)).1
    by_cases cb:18446744073709551616≤r+b1
    ·have E:=h_ (wV HA.out hI.out (.inl c1) cb)
     have fw:IntKind.u64.wrap (r+b1)=r+b1-18446744073709551616:=by rw[IntKind.wrap_u64];omega
     clear hI
     go_wp2_with fail
     go_ret
     exact⟨_,rfl,E.out,hd.out⟩
    ·have S:=yL HA.out hI.out (.inl c1) (by omega)
     have s0:=S.1
     have b01:=uM lo b0
     have HI2:=h_ S.2
     have HS:=h_ (vX lo b0 hI.out.l0 y2 y3)
     clear hI S
     go_wp2_with (simp only[HS.out])
     go_roundw
     case rel=>exact⟨_,_,_,_,rfl,rfl,rfl,rfl,hd,HI2⟩
     case measure=>simp[intOf]<;>omega
   ·by_cases c2:hi=r
    ·subst hi
     by_cases c3:a0<lo
     ·have g1:1≤g:=(rM HA.out hI.out (.inr ⟨rfl,c3⟩)).1
      by_cases cb:18446744073709551616≤r+b1
      ·have E:=h_ (wV HA.out hI.out (.inr ⟨rfl,c3⟩) cb)
       have fw:IntKind.u64.wrap (r+b1)=r+b1-18446744073709551616:=by rw[IntKind.wrap_u64];omega
       clear hI
       go_wp2_with fail
       go_ret
       exact⟨_,rfl,E.out,hd.out⟩
      ·have S:=yL HA.out hI.out (.inr ⟨rfl,c3⟩) (by omega)
       have s0:=S.1
       have b01:=uM lo b0
       have HI2:=h_ S.2
       have HS:=h_ (vX lo b0 hI.out.l0 y2 y3)
       clear hI S
       go_wp2_with (simp only[HS.out])
       go_roundw
       case rel=>exact⟨_,_,_,_,rfl,rfl,rfl,rfl,hd,HI2⟩
       case measure=>simp[intOf]<;>omega
     ·have E:=h_ (yM HA.out hI.out (by omega))
      clear hI
      go_wp2_with fail
      go_ret
      exact⟨_,rfl,E.out,hd.out⟩
    ·have E:=h_ (yM HA.out hI.out (by omega))
     clear hI
     go_wp2_with fail
     go_ret
     exact⟨_,rfl,E.out,hd.out⟩
 ·by_cases hc:18446744073709551616≤a1+b1
  ·have E:=h_ (aaN HA.out (by omega) hc)
   have fw:IntKind.u64.wrap (a1+b1)=a1+b1-18446744073709551616:=by rw[IntKind.wrap_u64];omega
   go_enter func265,ntmps265
   go_wp2_with fail
   go_ret
   exact⟨_,rfl,E.out,aY.refl _⟩
  ·obtain⟨hi,lo,p0,p1,p2,p3,p4,p5,hm⟩:=qO 18446744073709551615 b0 (by decide) (by decide) y2 y3
   have HM:=h_ hm
   have ha:a2=b1:=by omega
   have HI:Hid (pF a2 a1 a0 b1 b0 18446744073709551615 (a1+b1) hi lo):=h_ ⟨by omega,p4,by omega,by omega,by omega,by omega,p0,by omega,p2,p3,.inr rfl⟩
   have HD:=h_ (aY.refl w)
   clear hm p4 p5 le ha
   go_enter func265,ntmps265
   go_wp2_with (go_at_call 246;refine(HM.out _).mono ?_;rintro en w2 ⟨rfl,hw2⟩;subst w2)
   clear HM hlt hc p0 p1 p2 p3
   go_loopw [11,12,13,14] (fun u1 u2 u3 u4 wr=> ∃g r hi lo:Int,u1=.int .u64 g∧u2=.int .u64 r∧u3=.int .u64 hi∧u4=.int .u64 lo∧Hid (aY w wr)∧Hid (pF a2 a1 a0 b1 b0 g r hi lo)) (fun u1 _ _ _ _=>(intOf u1).toNat)
   case atStart=>exact⟨_,_,_,_,rfl,rfl,rfl,rfl,HD,HI⟩
   case round=>
    clear HD HI
    obtain⟨g,r,hi,lo,rfl,rfl,rfl,rfl,hd,hI⟩:=hrel
    have i0:=hI.out.g0
    have i1:=hI.out.g1
    have i2:=hI.out.r0
    have i3:=hI.out.r1
    have i4:=hI.out.h0
    have i5:=hI.out.h1
    by_cases c1:r<hi
    ·have g1:1≤g:=(rM HA.out hI.out (.inl c1)).1
     by_cases cb:18446744073709551616≤r+b1
     ·have E:=h_ (wV HA.out hI.out (.inl c1) cb)
      have fw:IntKind.u64.wrap (r+b1)=r+b1-18446744073709551616:=by rw[IntKind.wrap_u64];omega
      clear hI
      go_wp2_with fail
      go_ret
      exact⟨_,rfl,E.out,hd.out⟩
     ·have S:=yL HA.out hI.out (.inl c1) (by omega)
      have s0:=S.1
      have b01:=uM lo b0
      have HI2:=h_ S.2
      have HS:=h_ (vX lo b0 hI.out.l0 y2 y3)
      clear hI S
      go_wp2_with (simp only[HS.out])
      go_roundw
      case rel=>exact⟨_,_,_,_,rfl,rfl,rfl,rfl,hd,HI2⟩
      case measure=>simp[intOf]<;>omega
    ·by_cases c2:hi=r
     ·subst hi
      by_cases c3:a0<lo
      ·have g1:1≤g:=(rM HA.out hI.out (.inr ⟨rfl,c3⟩)).1
       by_cases cb:18446744073709551616≤r+b1
       ·have E:=h_ (wV HA.out hI.out (.inr ⟨rfl,c3⟩) cb)
        have fw:IntKind.u64.wrap (r+b1)=r+b1-18446744073709551616:=by rw[IntKind.wrap_u64];omega
        clear hI
        go_wp2_with fail
        go_ret
        exact⟨_,rfl,E.out,hd.out⟩
       ·have S:=yL HA.out hI.out (.inr ⟨rfl,c3⟩) (by omega)
        have s0:=S.1
        have b01:=uM lo b0
        have HI2:=h_ S.2
        have HS:=h_ (vX lo b0 hI.out.l0 y2 y3)
        clear hI S
        go_wp2_with (simp only[HS.out])
        go_roundw
        case rel=>exact⟨_,_,_,_,rfl,rfl,rfl,rfl,hd,HI2⟩
        case measure=>simp[intOf]<;>omega
      ·have E:=h_ (yM HA.out hI.out (by omega))
       clear hI
       go_wp2_with fail
       go_ret
       exact⟨_,rfl,E.out,hd.out⟩
     ·have E:=h_ (yM HA.out hI.out (by omega))
      clear hI
      go_wp2_with fail
      go_ret
      exact⟨_,rfl,E.out,hd.out⟩
end Go.Proofs.YtnapiakfbihnjaaGreatDoor
namespace Go.Proofs.YtnapiakfbihnjaaGreatDoor
open Go.RowKit Go.Shelf
theorem yu{a b:List Int}: ∀i:Nat,(∀j,j<i→gd a j=gd b j)→nv (a.take i)=nv (b.take i)
 |0,_=>by simp
 |i+1,h=>by rw[dE,dE,yu i (fun j hj=>h j (by omega)),h i (by omega)]
theorem tY(zs:List Int)(i:Nat):nv zs=nv (zs.take i)+pw^i*nv (zs.drop i):=by
 by_cases h:i≤zs.length
 ·exact gy zs i h
 ·rw[List.take_of_length_le (by omega),List.drop_eq_nil_of_le (by omega)];simp[nv]
theorem JB(zs:List Int)(i j:Nat):gd (zs.drop i) j=gd zs (i+j):=by
 unfold gd;simp[List.getElem?_drop]
theorem Eu{zs:List Int}(h:Wd zs)(n:Nat):0≤nv (zs.take n)∧nv (zs.take n)<pw^n:=by
 have h1:=dw (eP h n)
 have h2:=jb (eP h n)
 have h3:(zs.take n).length≤n:=by rw[List.length_take];omega
 have h4:=bT h3
 exact⟨h1,by omega⟩
theorem anK{zs:List Int}{m n:Nat}(h:Wd zs)(hv:nv (zs.drop m)<pw^n): ∀j,m+n≤j→gd zs j=0:=by
 intro j hj
 have h1:=tY (zs.drop m) n
 have h2:=(Eu (kU h m) n).1
 have h3:=dw (kU h (m+n))
 rw[List.drop_drop]at h1
 have hp:=ji n
 have h0:nv (zs.drop (m+n))=0:=by
  apply Classical.byContradiction
  intro hne
  have:=Int.mul_le_mul_of_nonneg_left (show 1≤nv (zs.drop (m+n))by omega) (Int.le_of_lt hp)
  omega
 have h4:=anL (kU h (m+n)) h0
 have h5:=JB zs (m+n) (j-(m+n))
 rw[show m+n+(j-(m+n))=j by omega]at h5
 rw[←h5]
 unfold gd
 cases hg:(zs.drop (m+n))[j-(m+n)]? with
 |none=>simp[hg]
 |some z=>simpa [hg]using h4 z (List.mem_of_getElem? hg)
theorem TC{zs:List Int}{n:Nat}(h:Wd zs)(hz: ∀j,n≤j→gd zs j=0):nv zs<pw^n:=by
 have h1:=tY zs n
 have h2:=(Eu h n).2
 have h3:nv (zs.drop n)=0:=by
  have: ∀(k:Nat) (m:Nat),(zs.drop m).length=k→n≤m→nv (zs.drop m)=0:=by
   intro k
   induction k with
   |zero=>intro m hm _;rw[List.length_eq_zero_iff.1 hm];rfl
   |succ k ih=>
    intro m hm hn
    rw[ik,hz m hn,ih (m+1) (by simp at hm⊢;omega) (by omega)];simp
  exact this _ n rfl (Nat.le_refl _)
 rw[h3]at h1
 simp at h1
 omega
theorem qP{zs:List Int}(h:Wd zs)(k:Nat):pw^k*nv (zs.drop k)≤nv zs∧nv zs<pw^k*(nv (zs.drop k)+1):=by
 have h1:=tY zs k
 obtain⟨h2,h3⟩:=Eu h k
 rw[Int.mul_add,Int.mul_one]
 omega
theorem ahd{A3 b10 U Y g P:Int}(P0:0<P)(u0:P*A3≤U)(u1:U<P*(A3+1))(y0:P*b10≤Y)(y1:Y<P*(b10+1))(hb:18446744073709551616≤b10)(g0:0≤g)(g1:g<18446744073709551616)
 (h1:g*b10≤A3) (h2:A3<(g+1)*b10∨g=18446744073709551615) (hU:U<18446744073709551616*Y):U<(g+1)*Y∧g*Y-U<Y:=by
 have hY:P*18446744073709551616≤Y:=by
  have:=Int.mul_le_mul_of_nonneg_left hb (Int.le_of_lt P0)
  omega
 constructor
 ·rcases h2 with h2|h2
  ·have a1:P*(A3+1)≤P*((g+1)*b10):=Int.mul_le_mul_of_nonneg_left (by omega) (Int.le_of_lt P0)
   have a2:(g+1)*(P*b10)≤(g+1)*Y:=Int.mul_le_mul_of_nonneg_left y0 (by omega)
   have a3:P*((g+1)*b10)=(g+1)*(P*b10):=by grind
   omega
  ·rw[h2];omega
 ·have a1:g*Y≤g*(P*(b10+1)):=Int.mul_le_mul_of_nonneg_left (by omega) g0
  have a2:g*(P*(b10+1))=P*(g*b10)+P*g:=by grind
  have a3:P*(g*b10)≤P*A3:=Int.mul_le_mul_of_nonneg_left h1 (Int.le_of_lt P0)
  have a4:P*g<P*18446744073709551616:=Int.mul_lt_mul_of_pos_left g1 P0
  omega
theorem taken{L M:List Int}{i n:Nat}{y c:Int}(hL:Wd L)(hM:Wd M)(hlen:M.length=L.length)(hin:i+n<L.length)(hv:nv M=nv L-pw^i*y+pw^(i+n)*c)(hs: ∀j,j<i∨i+n≤j→gd M j=gd L j)(hz: ∀j,i+n+1≤j→gd L j=0):
 nv ((M.set (i+n) 0).drop i)=nv (L.drop i)-y+pw^n*(c-gd L (i+n))∧0≤nv ((M.set (i+n) 0).drop i)∧nv ((M.set (i+n) 0).drop i)<pw^n∧Wd (M.set (i+n) 0)∧(∀j,j<i→gd (M.set (i+n) 0) j=gd L j)∧(∀j,i+n≤j→gd (M.set (i+n) 0) j=0):=by
 have hwd:Wd (M.set (i+n) 0):=jY hM ⟨Int.le_refl _,lX⟩
 have hlow: ∀j,j<i→gd (M.set (i+n) 0) j=gd L j:=fun j hj=>by rw[fD (by omega)];exact hs j (.inl hj)
 have hhigh: ∀j,i+n≤j→gd (M.set (i+n) 0) j=0:=by
  intro j hj
  by_cases h:j=i+n
  ·subst h;exact oO (by omega)
  ·rw[fD (by omega),hs j (.inr hj)];exact hz j (by omega)
 have e1:=tY (M.set (i+n) 0) i
 have e2:=tY L i
 rw[lV _ _ _ (by omega),hs (i+n) (.inr (Nat.le_refl _)),hv,yu i hlow]at e1
 have hp:=ji i
 have e3:pw^i*nv ((M.set (i+n) 0).drop i)=pw^i*(nv (L.drop i)-y+pw^n*(c-gd L (i+n))):=by
  rw[Int.pow_add]at e1
  have:pw^i*(nv (L.drop i)-y+pw^n*(c-gd L (i+n)))=pw^i*nv (L.drop i)-pw^i*y+pw^i*pw^n*c-pw^i*pw^n*gd L (i+n):=by grind
  rw[this]
  have e4:pw^i*pw^n*(0-gd L (i+n))= -(pw^i*pw^n*gd L (i+n)):=by grind
  rw[e4]at e1
  omega
 refine⟨Int.eq_of_mul_eq_mul_left (Int.ne_of_gt hp) e3,dw (kU hwd i),?_,hwd,hlow,hhigh⟩
 exact TC (kU hwd i) fun j hj=>by rw[JB];exact hhigh _ (by omega)
structure nG(zY:List Int)(n:Nat)(Y:Int):Prop where
 len:zY.length=n
 two:2≤n
 wd:Wd zY
 val:nv zY=Y
 top:9223372036854775808≤gd zY (n-1)
structure jL(X Y:Int)(n N m:Nat)(L O:List Int):Prop where
 Ew:L.length=N
 Ey:O.length+n=N
 wdL:Wd L
 wdO:Wd O
 val:nv L+pw^m*(nv (O.drop m)*Y)=X
 rem:nv (L.drop m)<Y
 low: ∀j,j<m→gd O j=0
theorem nG.lt{zY:List Int}{n:Nat}{Y:Int}(D:nG zY n Y):Y<pw^n:=by
 have:=jb D.wd
 rw[D.len,D.val]at this
 exact this
theorem nG.b10{zY:List Int}{n:Nat}{Y:Int}(D:nG zY n Y):nv (zY.drop (n-2))=gd zY (n-1)*pw+gd zY (n-2):=by
 have h2:=D.two
 rw[ik,ik zY (n-2+1),show n-2+1=n-1 by omega,show n-1+1=n by omega,List.drop_eq_nil_of_le (by rw[D.len];exact Nat.le_refl _)]
 simp[nv]
 grind
theorem jL.a3{X Y:Int}{n N i:Nat}{L O zY:List Int}(D:nG zY n Y)(I:jL X Y n N (i+1) L O):
 nv (L.drop (i+(n-2)))=(gd L (i+n)*pw+gd L (i+n-1))*pw+gd L (i+n-2)∧nv (L.drop (i+1+(n-2)))=gd L (i+n)*pw+gd L (i+n-1)∧(∀j,i+n+1≤j→gd L j=0):=by
 have h2:=D.two
 have hY:=D.lt
 have hr:=I.rem
 have hz:=anK (n:=n) I.wdL (show nv (L.drop (i+1))<pw^n by omega)
 have hz': ∀j,i+n+1≤j→gd L j=0:=fun j hj=>hz j (by omega)
 have h0:nv (L.drop (i+n+1))=0:=by
  have h1:=TC (n:=0) (kU I.wdL (i+n+1)) fun j _=>by rw[JB];exact hz' _ (by omega)
  have h3:=dw (kU I.wdL (i+n+1))
  simp at h1
  omega
 have e1:nv (L.drop (i+n))=gd L (i+n):=by rw[ik,h0];simp
 have e2:nv (L.drop (i+n-1))=gd L (i+n-1)+pw*gd L (i+n):=by rw[ik,show i+n-1+1=i+n by omega,e1]
 have e3:nv (L.drop (i+n-2))=gd L (i+n-2)+pw*(gd L (i+n-1)+pw*gd L (i+n)):=by rw[ik,show i+n-2+1=i+n-1 by omega,e2]
 refine⟨?_,?_,hz'⟩
 ·rw[show i+(n-2)=i+n-2 by omega,e3];grind
 ·rw[show i+1+(n-2)=i+n-1 by omega,e2];grind
theorem jL.args{X Y:Int}{n N i:Nat}{L O zY:List Int}(D:nG zY n Y)(I:jL X Y n N (i+1) L O):
 oP (gd L (i+n)) (gd L (i+n-1)) (gd L (i+n-2)) (gd zY (n-1)) (gd zY (n-2)):=by
 obtain⟨a1,a2,a3⟩:=I.a3 D
 have l1:=nZ I.wdL (i+n)
 have l2:=nZ I.wdL (i+n-1)
 have l3:=nZ I.wdL (i+n-2)
 have y1:=nZ D.wd (n-1)
 have y2:=nZ D.wd (n-2)
 rw[show pw=18446744073709551616 from rfl]at l1 l2 l3 y1 y2
 refine⟨l1.1,l2.1,l2.2,l3.1,l3.2,D.top,y1.2,y2.1,y2.2,?_⟩
 have t1:=qP (kU I.wdL (i+1)) (n-2)
 rw[List.drop_drop,a2]at t1
 have t2:=qP D.wd (n-2)
 rw[D.b10,D.val]at t2
 have hr:=I.rem
 have hp:=ji (n-2)
 have h3:pw^(n-2)*(gd L (i+n)*pw+gd L (i+n-1))<pw^(n-2)*(gd zY (n-1)*pw+gd zY (n-2)+1):=by omega
 have h4:=Int.lt_of_mul_lt_mul_left h3 (Int.le_of_lt hp)
 rw[show pw=18446744073709551616 from rfl]at h4
 omega
theorem jL.guess{X Y g:Int}{n N i:Nat}{L O zY:List Int}(D:nG zY n Y)(I:jL X Y n N (i+1) L O)(E:pz (gd L (i+n)) (gd L (i+n-1)) (gd L (i+n-2)) (gd zY (n-1)) (gd zY (n-2)) g):
 nv (L.drop i)<(g+1)*Y∧g*Y-nv (L.drop i)<Y∧0≤nv (L.drop i):=by
 obtain⟨a1,a2,a3⟩:=I.a3 D
 obtain⟨g0,g1,g2,g3⟩:=E
 have t1:=qP (kU I.wdL i) (n-2)
 rw[List.drop_drop,a1]at t1
 have t2:=qP D.wd (n-2)
 rw[D.b10,D.val]at t2
 have hU:nv (L.drop i)<18446744073709551616*Y:=by
  rw[ik]
  have l1:=nZ I.wdL i
  have hr:=I.rem
  rw[show pw=18446744073709551616 from rfl]at*
  omega
 have hp:=ji (n-2)
 have y2:=nZ D.wd (n-2)
 have htop:=D.top
 rw[show pw=18446744073709551616 from rfl]at a1 a2 t1 t2 y2 hp
 have:=ahd hp t1.1 t1.2 t2.1 t2.2 (by omega) g0 g1 g2 g3 hU
 exact⟨this.1,this.2,dw (kU I.wdL i)⟩
theorem TD{X Y g:Int}{n N i:Nat}{L O L2:List Int}(I:jL X Y n N (i+1) L O)(hi:i<O.length)(hlow: ∀j,j<i→gd L2 j=gd L j)(hv:nv (L2.drop i)=nv (L.drop i)-g*Y):nv L2+pw^i*(nv ((O.set i g).drop i)*Y)=X:=by
 have e1:=tY L2 i
 have e2:=tY L i
 have hd:(O.set i g).drop (i+1)=O.drop (i+1):=by rw[List.drop_set_of_lt (by omega)]
 have e3:nv ((O.set i g).drop i)=g+pw*nv (O.drop (i+1)):=by rw[ik,hd,oO hi]
 rw[yu i hlow,hv]at e1
 have hV:=I.val
 rw[e2,Int.pow_succ]at hV
 rw[e1,e3,←hV]
 grind
theorem aaO{X Y g c:Int}{n N i:Nat}{L O M zY:List Int}(D:nG zY n Y)(I:jL X Y n N (i+1) L O)(hi:i<O.length)(E:pz (gd L (i+n)) (gd L (i+n-1)) (gd L (i+n-2)) (gd zY (n-1)) (gd zY (n-2)) g)
 (hM:Wd M) (hlen:M.length=L.length) (hv:nv M=nv L-pw^i*(Y*g)+pw^(i+n)*c) (hs: ∀j,j<i∨i+n≤j→gd M j=gd L j) (hc:c≤gd L (i+n)):
 jL X Y n N i (M.set (i+n) 0) (O.set i g):=by
 obtain⟨a1,a2,a3⟩:=I.a3 D
 obtain⟨u1,u2,u3⟩:=I.guess D E
 obtain⟨t1,t2,t3,t4,t5,t6⟩:=taken I.wdL hM hlen (by have:=I.Ew;have:=I.Ey;omega) hv hs a3
 have hY:=D.lt
 have hp:=ji n
 obtain⟨g0,g1,_,_⟩:=E
 have e1:(g+1)*Y=g*Y+Y:=by grind
 have e2:Y*g=g*Y:=Int.mul_comm _ _
 rw[e1]at u1
 rw[e2]at t1
 generalize hP:pw^n=P at*
 have hcc:c-gd L (i+n)=0:=by
  apply Classical.byContradiction
  intro hne
  have:=Int.mul_le_mul_of_nonneg_left (show c-gd L (i+n)≤ -1 by omega) (Int.le_of_lt hp)
  omega
 rw[hcc,Int.mul_zero,Int.add_zero]at t1
 exact⟨by rw[List.length_set,hlen,I.Ew],by rw[List.length_set,I.Ey],t4,jY I.wdO ⟨g0,g1⟩,TD I hi t5 t1,by rw[t1];omega,fun j hj=>by rw[fD (by omega)];exact I.low j (by omega)⟩
theorem ahe{X Y g c:Int}{n N i:Nat}{L O M zY:List Int}(D:nG zY n Y)(I:jL X Y n N (i+1) L O)(hi:i<O.length)(E:pz (gd L (i+n)) (gd L (i+n-1)) (gd L (i+n-2)) (gd zY (n-1)) (gd zY (n-2)) g)
 (hM:Wd M) (hlen:M.length=L.length) (hv:nv M=nv L-pw^i*(Y*g)+pw^(i+n)*c) (hs: ∀j,j<i∨i+n≤j→gd M j=gd L j) (hc:gd L (i+n)<c):1≤g:=by
 obtain⟨a1,a2,a3⟩:=I.a3 D
 obtain⟨u1,u2,u3⟩:=I.guess D E
 obtain⟨t1,t2,t3,t4,t5,t6⟩:=taken I.wdL hM hlen (by have:=I.Ew;have:=I.Ey;omega) hv hs a3
 have hp:=ji n
 obtain⟨g0,g1,_,_⟩:=E
 have e2:Y*g=g*Y:=Int.mul_comm _ _
 rw[e2]at t1
 have hneg:nv (L.drop i)-g*Y<0:=by
  apply Classical.byContradiction
  intro hne
  have:=Int.mul_le_mul_of_nonneg_left (show 1≤c-gd L (i+n)by omega) (Int.le_of_lt hp)
  omega
 apply Classical.byContradiction
 intro hne
 have:g=0:=by omega
 rw[this,Int.zero_mul]at hneg
 omega
theorem adP{X Y g c c2:Int}{n N i:Nat}{L O M M3 zY:List Int}(D:nG zY n Y)(I:jL X Y n N (i+1) L O)(hi:i<O.length)(E:pz (gd L (i+n)) (gd L (i+n-1)) (gd L (i+n-2)) (gd zY (n-1)) (gd zY (n-2)) g)
 (hM:Wd M) (hlen:M.length=L.length) (hv:nv M=nv L-pw^i*(Y*g)+pw^(i+n)*c) (hs: ∀j,j<i∨i+n≤j→gd M j=gd L j) (hc:gd L (i+n)<c)
 (c0:0≤c2) (c1:c2≤1) (hM3:Wd M3) (hlen3:M3.length=(M.set (i+n) 0).length) (hv3:nv M3=nv (M.set (i+n) 0)+pw^i*Y-pw^(i+n)*c2) (hs3: ∀j,j<i∨i+n≤j→gd M3 j=gd (M.set (i+n) 0) j):
 1≤g∧c2=1∧jL X Y n N i M3 (O.set i (g-1)):=by
 obtain⟨a1,a2,a3⟩:=I.a3 D
 obtain⟨u1,u2,u3⟩:=I.guess D E
 obtain⟨t1,t2,t3,t4,t5,t6⟩:=taken I.wdL hM hlen (by have:=I.Ew;have:=I.Ey;omega) hv hs a3
 have hY:=D.lt
 have hp:=ji n
 obtain⟨g0,g1,_,_⟩:=E
 have e1:(g+1)*Y=g*Y+Y:=by grind
 have e2:Y*g=g*Y:=Int.mul_comm _ _
 have e3:(g-1)*Y=g*Y-Y:=by grind
 rw[e1]at u1
 rw[e2]at t1
 have hneg:nv (L.drop i)-g*Y<0:=by
  apply Classical.byContradiction
  intro hne
  have:=Int.mul_le_mul_of_nonneg_left (show 1≤c-gd L (i+n)by omega) (Int.le_of_lt hp)
  omega
 have hg1:1≤g:=by
  apply Classical.byContradiction
  intro hne
  have:g=0:=by omega
  rw[this,Int.zero_mul]at hneg
  omega
 have hcc:c-gd L (i+n)=1:=by
  apply Classical.byContradiction
  intro hne
  have:=Int.mul_le_mul_of_nonneg_left (show 2≤c-gd L (i+n)by omega) (Int.le_of_lt hp)
  omega
 rw[hcc,Int.mul_one]at t1
 obtain⟨s1,s2,s3,s4,s5,s6⟩:=taken t4 hM3 hlen3 (by rw[List.length_set,hlen];have:=I.Ew;have:=I.Ey;omega) (y:= -Y) (c:= -c2) (by rw[hv3];grind) hs3 (fun j hj=>t6 j (by omega))
 have hset:M3.set (i+n) 0=M3:=by
  have hlt:i+n<M3.length:=by rw[hlen3,List.length_set,hlen];have:=I.Ew;have:=I.Ey;omega
  have h0:gd M3 (i+n)=0:=by rw[hs3 _ (.inr (Nat.le_refl _))];exact t6 _ (Nat.le_refl _)
  apply List.ext_getElem (by simp)
  intro k h1 h2
  rw[List.getElem_set]
  split
  ·rename_i hk;subst hk;rw[gK hlt]at h0;exact h0.symm
  ·rfl
 rw[hset,t6 _ (Nat.le_refl _)]at s1
 rw[hset]at s2 s3 s4 s5 s6
 rw[t1]at s1
 have hc2:c2=1:=by
  apply Classical.byContradiction
  intro hne
  have:c2=0:=by omega
  subst this
  simp at s1
  omega
 subst hc2
 have s1':nv (M3.drop i)=nv (L.drop i)-(g-1)*Y:=by
  rw[s1,e3];grind
 exact⟨hg1,rfl,by rw[hlen3,List.length_set,hlen,I.Ew],by rw[List.length_set,I.Ey],s4,jY I.wdO ⟨by omega,by rw[show pw=18446744073709551616 from rfl];omega⟩,TD I hi (fun j hj=>by rw[s5 j hj];exact t5 j hj) s1',by rw[s1',e3];omega,fun j hj=>by rw[fD (by omega)];exact I.low j (by omega)⟩
theorem YJ{a b:Nat}(h:a≤b):(2:Int)^b=2^(b-a)*2^a:=by rw[←Int.pow_add];congr 1;omega
theorem jL.start{X Y:Int}{n N up:Nat}{L zY:List Int}(D:nG zY n Y)(hL:L.length=N)(hw:Wd L)(hv:nv L=X)(hn:n+1≤N)(hup:up≤63)(hX:X<pw^(N-1)*2^up):
 jL X Y n N (N-n) L (List.replicate (N-n) 0):=by
 refine⟨hL,by simp;omega,hw,fA _,?_,?_,fun j _=>nS _ j⟩
 ·rw[List.drop_eq_nil_of_le (by simp)];simp[nv,hv]
 ·have t:=(qP hw (N-n)).1
  rw[hv]at t
  have t2:=(qP D.wd (n-1)).1
  have h2:=D.two
  rw[D.val,ik,show n-1+1=n by omega,List.drop_eq_nil_of_le (by rw[D.len];exact Nat.le_refl _)]at t2
  simp[nv]at t2
  have e:pw^(N-1)=pw^(N-n)*pw^(n-1):=by rw[←Int.pow_add];congr 1;omega
  have hp:=ji (N-n)
  have hq:=ji (n-1)
  have h63:(2:Int)^up≤9223372036854775808:=by
   have:=YJ (show up≤63 by omega)
   have h3:=Int.mul_le_mul_of_nonneg_right (show(1:Int)≤2^(63-up)from au _) (Int.le_of_lt (au up))
   have h4:(2:Int)^63=9223372036854775808:=by decide
   omega
  have a1:pw^(n-1)*2^up≤pw^(n-1)*gd zY (n-1):=Int.mul_le_mul_of_nonneg_left (by have:=D.top;omega) (Int.le_of_lt hq)
  have a2:pw^(N-n)*nv (L.drop (N-n))<pw^(N-n)*(pw^(n-1)*2^up):=by rw[←Int.mul_assoc,←e];omega
  have:=Int.lt_of_mul_lt_mul_left a2 (Int.le_of_lt hp)
  omega
theorem jL.stop{X Y x y:Int}{n N up:Nat}{L O:List Int}(I:jL X Y n N 0 L O)(hX:X=x*2^up)(hY:Y=y*2^up)(y0:0<y):x/y=nv O∧x%y=nv L/2^up:=by
 have hv:=I.val
 have hr:=I.rem
 rw[List.drop_zero]at hv hr
 simp at hv
 have h0:=dw I.wdL
 have hp:=au up
 subst hX hY
 have e2:nv L=(x-nv O*y)*2^up:=by rw[Int.sub_mul];rw[←hv];grind
 rw[e2,Int.mul_ediv_cancel _ (Int.ne_of_gt hp)]
 have h1:0≤x-nv O*y:=by
  apply Classical.byContradiction
  intro hc
  have:=Int.mul_neg_of_neg_of_pos (show x-nv O*y<0 by omega) hp
  omega
 have h2:x-nv O*y<y:=Int.lt_of_mul_lt_mul_right (by rw[←e2];exact hr) (Int.le_of_lt hp)
 have hq:x/y=nv O:=by
  have:x=(x-nv O*y)+nv O*y:=by omega
  rw[this,Int.add_mul_ediv_right _ _ (Int.ne_of_gt y0),Int.ediv_eq_zero_of_lt h1 h2,Int.zero_add]
 refine⟨hq,?_⟩
 have:=Int.mul_ediv_add_emod x y
 rw[hq,Int.mul_comm]at this
 omega
theorem aaP{zY:List Int}{y:Int}{n bl:Nat}(hw:Wd zY)(hc:Can zY)(hne:zY≠ [])(hv:nv zY=y*2^(64-bl))(h2:2≤n)(b1:1≤bl)(b2:bl≤64)(y0:pw^(n-1)*2^(bl-1)≤y)(y1:y<pw^(n-1)*2^bl):nG zY n (y*2^(64-bl)):=by
 have hp:=au (64-bl)
 have e63:(2:Int)^(bl-1)*2^(64-bl)=9223372036854775808:=by rw[←Int.pow_add,show bl-1+(64-bl)=63 by omega];rfl
 have e64:(2:Int)^bl*2^(64-bl)=pw:=by rw[←Int.pow_add,show bl+(64-bl)=64 by omega];rfl
 have k1:pw^(n-1)*9223372036854775808≤y*2^(64-bl):=by
  have:=Int.mul_le_mul_of_nonneg_right y0 (Int.le_of_lt hp)
  rw[Int.mul_assoc,e63]at this
  exact this
 have k2:y*2^(64-bl)<pw^n:=by
  have:=Int.mul_lt_mul_of_pos_right y1 hp
  rw[Int.mul_assoc,e64,←Int.pow_succ,show(n-1).succ=n by omega]at this
  exact this
 have hq:=ji (n-1)
 have hlen:zY.length=n:=by
  have h1:=tq hw hc hne
  have h3:=jb hw
  rw[hv]at h1 h3
  have h0:0<zY.length:=List.length_pos_iff.2 hne
  have l1:zY.length-1<n:=by
   apply Classical.byContradiction
   intro hc
   have:=bT (show n≤zY.length-1 by omega)
   omega
  have l2:n-1<zY.length:=by
   apply Classical.byContradiction
   intro hc
   have:=bT (show zY.length≤n-1 by omega)
   omega
  omega
 refine⟨hlen,h2,hw,hv,?_⟩
 have t:=(qP hw (n-1)).2
 rw[hv,ik,show n-1+1=n by omega,List.drop_eq_nil_of_le (by omega)]at t
 simp[nv]at t
 have h4:pw^(n-1)*9223372036854775808<pw^(n-1)*(gd zY (n-1)+1):=by omega
 have:=Int.lt_of_mul_lt_mul_left h4 (Int.le_of_lt hq)
 omega
theorem ahf{zs:List Int}{n:Nat}(hw:Wd zs)(hl:zs.length=n)(h0:0<n)(ht:gd zs (n-1)≠0):pw^(n-1)*2^(aQ (gd zs (n-1))-1)≤nv zs∧nv zs<pw^(n-1)*2^aQ (gd zs (n-1)):=by
 have h1:=nZ hw (n-1)
 obtain⟨b1,b2,b3⟩:=eF (show 0<gd zs (n-1)by omega)
 have t:=qP hw (n-1)
 rw[ik,show n-1+1=n by omega,List.drop_eq_nil_of_le (by omega)]at t
 simp[nv]at t
 have hq:=ji (n-1)
 have a1:=Int.mul_le_mul_of_nonneg_left b1 (Int.le_of_lt hq)
 have a2:=Int.mul_le_mul_of_nonneg_left (show gd zs (n-1)+1≤2^aQ (gd zs (n-1))by omega) (Int.le_of_lt hq)
 omega
end Go.Proofs.YtnapiakfbihnjaaGreatDoor
