/-
  Contracts of package exact's naturals: products by a word, products by rows.
-/
import Derived.Test.YtedhbbjlbgpafaaGreatDoorP10
import Derived.Deep.RegionHeld3
set_option linter.unusedVariables false
set_option linter.unusedSimpArgs false
set_option maxRecDepth 1000000
set_option maxHeartbeats 4000000
namespace Go.Proofs.YtedhbbjlbgpafaaGreatDoor
open Go.RowKit Go.Shelf
theorem mul64(x y:Int)(hx:0≤x)(hx':x<18446744073709551616)(hy:0≤y)(hy':y<18446744073709551616)(w:World):
 Calls Tryz.prog 245 #[.int .u64 x,.int .u64 y] w fun e w'=>e=.returned (.tuple #[.int .u64 (x*y/18446744073709551616),.int .u64 (x*y%18446744073709551616)])∧w'=w:=by
 obtain⟨x,rfl⟩:=Int.eq_ofNat_of_zero_le hx
 obtain⟨y,rfl⟩:=Int.eq_ofNat_of_zero_le hy
 refine(Any.bits_Mul64 Tryz.lays264 x y (by omega) (by omega) w).mono ?_
 rintro e w' ⟨h1,h2⟩
 refine⟨?_,h2⟩
 rw[h1,←Int.natCast_mul]
 generalize x*y=p
 congr 5<;>omega
theorem mul64_halves(x y:Int)(hx:0≤x)(hx':x<18446744073709551616)(hy:0≤y)(hy':y<18446744073709551616):
 ∃hi lo:Int,0≤hi∧hi≤18446744073709551614∧0≤lo∧lo<18446744073709551616∧x*y=hi*18446744073709551616+lo∧x*y≤18446744073709551615*18446744073709551615∧
 ∀w:World,Calls Tryz.prog 245 #[.int .u64 x,.int .u64 y] w fun e w'=>e=.returned (.tuple #[.int .u64 hi,.int .u64 lo])∧w'=w:=by
 have h0:0≤x*y:=Int.mul_nonneg hx hy
 have h1:x*y≤18446744073709551615*y:=Int.mul_le_mul_of_nonneg_right (by omega) hy
 refine⟨x*y/18446744073709551616,x*y%18446744073709551616,by omega,by omega,by omega,by omega,by omega,by omega,fun w=>mul64 x y hx hx' hy hy' w⟩
structure ScaleInv(g:Nat)(za:List Int)(f m:Int)(n i:Nat)(w:World)(c:Int)(L:List Int):Prop where
 len:L.length=n
 wd:Wd L
 val:nv L+pw^i*c=nv (za.take i)*f+m
 high: ∀j,i≤j→gd L j=0
 blk:Blk w g L
theorem scale_start{g:Nat}{za:List Int}{f m:Int}{n:Nat}{w:World}(h:Blk w g (List.replicate n 0)):ScaleInv g za f m n 0 w m (List.replicate n 0):=
 ⟨List.length_replicate,Wd_replicate n,by rw[nv_replicate];simp[nv],fun j _=>gd_zeros n j,h⟩
theorem scale_step{g:Nat}{za:List Int}{f m c hi lo:Int}{n i:Nat}{w w2:World}{L:List Int}(hn:i<n)(h:ScaleInv g za f m n i w c L)(hp:gd za i*f=hi*18446744073709551616+lo)
 (hB:Blk w2 g (L.set i ((lo+c)%18446744073709551616))):ScaleInv g za f m n (i+1) w2 (hi+(lo+c)/18446744073709551616) (L.set i ((lo+c)%18446744073709551616)):=by
 refine⟨by simp[h.len],Wd_set h.wd ⟨Int.emod_nonneg _ (by omega),Int.emod_lt_of_pos _ (by omega)⟩,?_,?_,hB⟩
 ·rw[nv_set _ _ _ (by rw[h.len];exact hn),h.high i (Nat.le_refl _),nv_take_all,Int.pow_succ,show pw=18446744073709551616 from rfl,Int.add_mul]
  have hv:=h.val
  rw[show pw=18446744073709551616 from rfl]at hv
  have e:=Int.mul_ediv_add_emod (lo+c) 18446744073709551616
  generalize (lo+c)/18446744073709551616=q at*
  generalize (lo+c)%18446744073709551616=r at*
  have:r=lo+c-18446744073709551616*q:=by omega
  rw[this,Int.mul_assoc (18446744073709551616^i) (gd za i) f,hp]
  grind
 ·intro j hj
  rw[gd_set_ne (by omega)]
  exact h.high j (by omega)
theorem scale_any(w:World)(b off cap:Nat)(za:List Int)(x f m:Int)(ha:Ns w b off cap za x)(hx:x<big)(f0:0≤f)(f1:f<18446744073709551616)(m0:0≤m)(m1:m<18446744073709551616):
 Calls Tryz.prog 209 #[.slice (some ⟨b,off,none⟩) za.length cap,.int .u64 f,.int .u64 m] w (NewNt w (x*f+m)):=by
 have hl:=ha.len hx
 have hcap:=ha.cap
 have HLT:=Lib.hid ha.lt
 have H:=Lib.hid ha
 clear ha hx
 obtain⟨l,hl'⟩: ∃l,za.length=l:=⟨_,rfl⟩
 have HL:=Lib.hid hl'
 rw[hl']at hl hcap⊢
 clear hl'
 obtain⟨i0,hi,hz0,hz1,hz2⟩:=info_parts infoU
 go_enter Tryz.func209,Tryz.ntmps209
 go_wp2_with (at_make;refine wpList_make_full w rfl (.tmp 15) (.tmp 15) 49 rfl w.heap.size 24 i0 (.int .u64 0) 1 Tryz.underlying49 hi hz0 hz1 .i64 .i64 _ _ (l+1) rfl rfl (by omega) (by omega) (by rw[hz2];omega) (by unfold maxLen;omega) (Nat.le_refl _) ?_;intro w1 hown hgrow;have hblk:=Lib.hid (blk_made hown);have hbel:=Lib.hid (below_made hgrow);clear hown hgrow hi hz0 hz1 hz2)
 generalize hg:w.heap.size=g at hblk hbel
 have HG:=Lib.hid hg
 clear hg
 go_loopw [2,19] (fun u v wr=> ∃(i:Nat) (c:Int),i≤l∧0≤c∧c<18446744073709551616∧u=.int .u64 c∧v=.int .i64 i∧Hid (Below g w wr∧ ∃L,ScaleInv g za f m (l+1) i wr c L)) (fun _ v _=>l-(intOf v).toNat)
 case atStart=>exact⟨0,m,Nat.zero_le _,m0,m1,rfl,rfl,Lib.hid ⟨hbel.out,_,scale_start hblk.out⟩⟩
 case round=>
  obtain⟨i,c,him,c0,c1,rfl,rfl,hr⟩:=hrel
  by_cases hlt:i<l
  ·obtain⟨hbw,L,hL⟩:=hr.out
   have cA:=(hbw.cell (p:=⟨b,off+i,none⟩) (by have:=HLT.out;have:=HG.out;simp;omega)).trans (H.out.row i (by rw[HL.out];omega))
   have cO:=hL.blk.cell i (by rw[hL.len];omega)
   have fO:=hL.blk.frozen i
   have HI:=Lib.hid hL
   have HBw:=Lib.hid hbw
   obtain⟨a0,a1⟩:=gd_bounds H.out.wd i
   obtain⟨hi,lo,p0,p1,p2,p3,p4,p5,hc⟩:=mul64_halves (gd za i) f a0 a1 f0 f1
   have HC:=Lib.hid hc
   have HP:=Lib.hid p4
   have hw:hi+(lo+c)/18446744073709551616<18446744073709551616:=by omega
   have HW:Hid (IntKind.u64.wrap (hi+(lo+c)/18446744073709551616)=hi+(lo+c)/18446744073709551616):=Lib.hid (by rw[IntKind.wrap_u64];omega)
   have HA:=Lib.hid (add64_0 lo c p2 c0)
   have HN:Hid (0≤hi+(lo+c)/18446744073709551616∧hi+(lo+c)/18446744073709551616<18446744073709551616):=Lib.hid ⟨by omega,hw⟩
   clear hr hL hbw hc p0 p1 p2 p3 p4 p5 hw a0 a1
   go_wp2_with (first|(go_at_call 245;refine(HC.out _).mono ?_;rintro e w' ⟨rfl,rfl⟩)|simp only[HA.out])
   go_roundw
   case rel=>
    refine⟨i+1,hi+(lo+c)/18446744073709551616,by omega,HN.out.1,HN.out.2,by rw[HW.out],by go_num,Lib.hid ⟨below_set HBw.out (Nat.le_refl _) _ _,_,scale_step (by omega) HI.out HP.out (HI.out.blk.set _ _)⟩⟩
   case measure=>simp[intOf]<;>omega
  ·have hie:i=l:=by omega
   subst hie
   clear hlt him
   obtain⟨hbw,L,hL⟩:=hr.out
   have hLL:=hL.len
   have cO:=hL.blk.cell i (by rw[hL.len];omega)
   have fO:=hL.blk.frozen i
   have HH:=Lib.hid hL
   have HBw:=Lib.hid hbw
   clear hr hL hbw hLL
   have hval:nv (L.set i c)=x*f+m:=by
    rw[nv_set _ _ _ (by rw[HH.out.len];omega),HH.out.high i (Nat.le_refl _)]
    have hv:=HH.out.val
    rw[show za.take i=za by rw[←HL.out,List.take_length],H.out.val]at hv
    rw[←hv,Int.sub_zero]
   have hwd:Wd (L.set i c):=Wd_set HH.out.wd ⟨c0,c1⟩
   have HV:=Lib.hid (And.intro hval hwd)
   clear hval hwd
   have hcut: ∀wr',Blk wr' g (L.set i c)→_:=fun wr' hb=>cut_any g 0 (i+1) (L.set i c) wr' (by simp[HH.out.len];omega) (by simp[HH.out.len]) hb.row
   have hBs:=HH.out.blk.set i c
   have hcut2:=hcut _ hBs
   rw[show(L.set i c).length=i+1 by simp[HH.out.len]]at hcut2
   have HC:=Lib.hid hcut2
   have HBs:=Lib.hid hBs
   clear hcut hcut2 hBs
   go_wp2_with fail
   refine HC.out.mono ?_
   rintro e w' ⟨rfl,m',hm1,hm2,hm3,rfl⟩
   go_wp2_with fail
   go_ret
   refine⟨_,rfl,?_,below_set (by rw[HG.out];exact HBw.out) (by rw[HG.out];exact Nat.le_refl _) _ _⟩
   rw[←HV.out.1]
   exact nt_cut HBs.out.row HBs.out.lt HBs.out.ty HV.out.2 (by simp[HH.out.len]) m' hm1 hm2 hm3
structure ProdInv(g o:Nat)(M zb:List Int)(f:Int)(i:Nat)(w:World)(c:Int)(M':List Int):Prop where
 len:M'.length=M.length
 wd:Wd M'
 val:nv M'=nv M+pw^o*(nv (zb.take i)*f)-pw^(o+i)*c
 same: ∀j,j<o∨o+i≤j→gd M' j=gd M j
 blk:Blk w g M'
theorem prod_start{g o:Nat}{M zb:List Int}{f:Int}{w:World}(h:Blk w g M)(hM:Wd M):ProdInv g o M zb f 0 w 0 M:=
 ⟨rfl,hM,by simp[nv],fun j _=>rfl,h⟩
theorem prod_step{g o:Nat}{M zb M':List Int}{f c hi lo:Int}{i:Nat}{w w2:World}(hn:o+i<M.length)(h:ProdInv g o M zb f i w c M')(hp:gd zb i*f=hi*18446744073709551616+lo)
 (hB:Blk w2 g (M'.set (o+i) ((gd M' (o+i)+(lo+c)%18446744073709551616)%18446744073709551616))):
 ProdInv g o M zb f (i+1) w2 (hi+(lo+c)/18446744073709551616+(gd M' (o+i)+(lo+c)%18446744073709551616)/18446744073709551616) (M'.set (o+i) ((gd M' (o+i)+(lo+c)%18446744073709551616)%18446744073709551616)):=by
 refine⟨by simp[h.len],Wd_set h.wd ⟨Int.emod_nonneg _ (by omega),Int.emod_lt_of_pos _ (by omega)⟩,?_,?_,hB⟩
 ·rw[nv_set _ _ _ (by rw[h.len];exact hn),h.val,nv_take_all,show o+(i+1)=o+i+1 by omega,Int.pow_succ,Int.pow_add,show pw=18446744073709551616 from rfl,Int.add_mul,Int.mul_assoc (18446744073709551616^i) (gd zb i) f,hp]
  have e1:=Int.mul_ediv_add_emod (lo+c) 18446744073709551616
  generalize (lo+c)/18446744073709551616=q at*
  generalize (lo+c)%18446744073709551616=r at*
  have e2:=Int.mul_ediv_add_emod (gd M' (o+i)+r) 18446744073709551616
  generalize (gd M' (o+i)+r)/18446744073709551616=q2 at*
  generalize (gd M' (o+i)+r)%18446744073709551616=r2 at*
  have h1:r=lo+c-18446744073709551616*q:=by omega
  have h2:r2=gd M' (o+i)+r-18446744073709551616*q2:=by omega
  rw[h2,h1];grind
 ·intro j hj
  rw[gd_set_ne (by omega)]
  exact h.same j (by omega)
def ProdPost(w:World)(g o n:Nat)(M:List Int)(y:Int)(e:Ending)(w':World):Prop:=
 ∃(c:Int) (M':List Int),0≤c∧c<18446744073709551616∧e=.returned (.int .u64 c)∧Only g w w'∧M'.length=M.length∧Wd M'∧nv M'=nv M+pw^o*y-pw^(o+n)*c∧(∀j,j<o∨o+n≤j→gd M' j=gd M j)∧Blk w' g M'
theorem addProduct_any(w:World)(g o n cap:Nat)(M:List Int)(hB:Blk w g M)(hM:Wd M)(b off cap2:Nat)(zb:List Int)(hon:o+zb.length≤M.length)(hMl:M.length≤10000)(hl:zb.length≤n)(hcap:zb.length≤cap2)
 (hwd:Wd zb) (hr:Row w b off zb) (hne:b≠g) (f:Int) (f0:0≤f) (f1:f<18446744073709551616):
 Calls Tryz.prog 263 #[.slice (some ⟨g,o,none⟩) n cap,.slice (some ⟨b,off,none⟩) zb.length cap2,.int .u64 f] w (ProdPost w g o zb.length M (nv zb*f)):=by
 have HM:=Lib.hid (And.intro hB hM)
 have HW:=Lib.hid hwd
 have HR:=Lib.hid hr
 clear hB hM hwd hr
 obtain⟨m,hm⟩: ∃m,M.length=m:=⟨_,rfl⟩
 have Hm:=Lib.hid hm
 rw[hm]at hon hMl
 clear hm
 obtain⟨l,hl'⟩: ∃l,zb.length=l:=⟨_,rfl⟩
 have HL:=Lib.hid hl'
 rw[hl']at hl hcap hon⊢
 clear hl'
 go_enter Tryz.func263,Tryz.ntmps263
 go_wp2_with fail
 go_loopw [7,15] (fun u v wr=> ∃(i:Nat) (c:Int),i≤l∧0≤c∧c<18446744073709551616∧u=.int .u64 c∧v=.int .i64 i∧Hid (Only g w wr∧ ∃M',ProdInv g o M zb f i wr c M')) (fun _ v _=>l-(intOf v).toNat)
 case atStart=>exact⟨0,0,Nat.zero_le _,by omega,by omega,rfl,rfl,Lib.hid ⟨Only.refl _ _,_,prod_start HM.out.1 HM.out.2⟩⟩
 case round=>
  obtain⟨i,c,him,c0,c1,rfl,rfl,hr⟩:=hrel
  by_cases hlt:i<l
  ·obtain⟨hon',M',hI⟩:=hr.out
   have cA:=hon'.cell (HR.out i (by rw[HL.out];omega)) hne
   have cO:=hI.blk.cell (o+i) (by rw[hI.len,Hm.out];omega)
   have fO:=hI.blk.frozen (o+i)
   have HI:=Lib.hid hI
   have HO:=Lib.hid hon'
   obtain⟨a0,a1⟩:=gd_bounds hI.wd (o+i)
   obtain⟨b0,b1⟩:=gd_bounds HW.out i
   obtain⟨hi,lo,p0,p1,p2,p3,p4,p5,hc⟩:=mul64_halves (gd zb i) f b0 b1 f0 f1
   have HC:=Lib.hid hc
   have HP:=Lib.hid p4
   have q0:0≤(lo+c)%18446744073709551616:=Int.emod_nonneg _ (by decide)
   have HA:=Lib.hid (add64_0 lo c p2 c0)
   have HA2:=Lib.hid (add64_0 (gd M' (o+i)) ((lo+c)%18446744073709551616) a0 q0)
   have hw1:hi+(lo+c)/18446744073709551616<18446744073709551616:=by omega
   have hw2:hi+(lo+c)/18446744073709551616+(gd M' (o+i)+(lo+c)%18446744073709551616)/18446744073709551616<18446744073709551616:=by omega
   have HN:Hid (0≤hi+(lo+c)/18446744073709551616+(gd M' (o+i)+(lo+c)%18446744073709551616)/18446744073709551616∧hi+(lo+c)/18446744073709551616+(gd M' (o+i)+(lo+c)%18446744073709551616)/18446744073709551616<18446744073709551616):=Lib.hid ⟨by omega,hw2⟩
   have HW1:Hid (IntKind.u64.wrap (hi+(lo+c)/18446744073709551616)=hi+(lo+c)/18446744073709551616):=Lib.hid (by rw[IntKind.wrap_u64];omega)
   have HW2:Hid (IntKind.u64.wrap (hi+(lo+c)/18446744073709551616+(gd M' (o+i)+(lo+c)%18446744073709551616)/18446744073709551616)=hi+(lo+c)/18446744073709551616+(gd M' (o+i)+(lo+c)%18446744073709551616)/18446744073709551616):=Lib.hid (by rw[IntKind.wrap_u64];omega)
   have HE:Hid ((gd M' (o+i)+(lo+c)%18446744073709551616)%18446744073709551616=(gd M' (o+i)+(lo+c))%18446744073709551616):=Lib.hid (by omega)
   clear hr hI hon' hc p0 p1 p2 p3 p4 p5 q0 hw1 hw2 a0 a1 b0 b1
   go_wp2_with (first|(go_at_call 245;refine(HC.out _).mono ?_;rintro e w' ⟨rfl,rfl⟩)|simp only[HA.out]|simp only[HA2.out])
   go_roundw
   case rel=>exact⟨i+1,_,by omega,HN.out.1,HN.out.2,by rw[HW1.out,HW2.out],by go_num,Lib.hid ⟨HO.out.set _ _,_,prod_step (by rw[Hm.out];omega) HI.out HP.out (by rw[HE.out];exact HI.out.blk.set _ _)⟩⟩
   case measure=>simp[intOf]<;>omega
  ·have hie:i=l:=by omega
   subst hie
   clear hlt him
   go_wp2_with fail
   go_ret
   obtain⟨h7,M',h8⟩:=hr.out
   refine⟨c,M',c0,c1,rfl,h7,h8.len,h8.wd,?_,h8.same,h8.blk⟩
   rw[h8.val,List.take_of_length_le (by rw[HL.out];exact Nat.le_refl _)]
structure RowsInv(g la:Nat)(zb:List Int)(x:Int)(n i:Nat)(w:World)(L:List Int):Prop where
 len:L.length=n
 wd:Wd L
 val:nv L=x*nv (zb.take i)
 high: ∀j,i+la≤j→gd L j=0
 blk:Blk w g L
theorem rows_start{g la:Nat}{zb:List Int}{x:Int}{n:Nat}{w:World}(h:Blk w g (List.replicate n 0)):RowsInv g la zb x n 0 w (List.replicate n 0):=
 ⟨List.length_replicate,Wd_replicate n,by rw[nv_replicate];simp[nv],fun j _=>gd_zeros n j,h⟩
theorem rows_step{g la:Nat}{zb:List Int}{x c:Int}{n i:Nat}{w w2:World}{L M':List Int}(hn:i+la<n)(h:RowsInv g la zb x n i w L)(c0:0≤c)(c1:c<18446744073709551616)(h2:M'.length=L.length)(h3:Wd M')
 (h4:nv M'=nv L+pw^i*(x*gd zb i)-pw^(i+la)*c) (h5: ∀j,j<i∨i+la≤j→gd M' j=gd L j) (hB:Blk w2 g (M'.set (i+la) c)):RowsInv g la zb x n (i+1) w2 (M'.set (i+la) c):=by
 refine⟨by simp[h2,h.len],Wd_set h3 ⟨c0,c1⟩,?_,?_,hB⟩
 ·rw[nv_set _ _ _ (by rw[h2,h.len];exact hn),h5 (i+la) (.inr (Nat.le_refl _)),h.high (i+la) (Nat.le_refl _),h4,h.val,nv_take_all]
  grind
 ·intro j hj
  rw[gd_set_ne (by omega),h5 j (.inr (by omega))]
  exact h.high j (by omega)
theorem mulRows_any(w:World)(b off cap:Nat)(za:List Int)(x:Int)(b2 off2 cap2:Nat)(zb:List Int)(y:Int)(ha:Ns w b off cap za x)(hb:Ns w b2 off2 cap2 zb y)(hx:x<big)(hy:y<big):
 Calls Tryz.prog 232 #[.slice (some ⟨b,off,none⟩) za.length cap,.slice (some ⟨b2,off2,none⟩) zb.length cap2] w (NewNt w (x*y)):=by
 have hl:=ha.len hx
 have hl2:=hb.len hy
 have hcap:=ha.cap
 have hcap2:=hb.cap
 have hpos:=ha.pos
 have hpos2:=hb.pos
 have HLT:=Lib.hid ha.lt
 have HLT2:=Lib.hid hb.lt
 have H:=Lib.hid ha
 have H2:=Lib.hid hb
 clear ha hb hx hy
 obtain⟨l,hl'⟩: ∃l,za.length=l:=⟨_,rfl⟩
 obtain⟨k,hk'⟩: ∃k,zb.length=k:=⟨_,rfl⟩
 have HL:=Lib.hid hl'
 have HK:=Lib.hid hk'
 rw[hl']at hl hcap hpos⊢
 rw[hk']at hl2 hcap2 hpos2⊢
 clear hl' hk'
 obtain⟨i0,hi,hz0,hz1,hz2⟩:=info_parts infoU
 go_enter Tryz.func232,Tryz.ntmps232
 go_wp2_with (at_make;refine wpList_make_full w rfl (.tmp 12) (.tmp 12) 49 rfl w.heap.size 24 i0 (.int .u64 0) 1 Tryz.underlying49 hi hz0 hz1 .i64 .i64 _ _ (l+k) rfl rfl (by omega) (by omega) (by rw[hz2];omega) (by unfold maxLen;omega) (Nat.le_refl _) ?_;intro w1 hown hgrow;have hblk:=Lib.hid (blk_made hown);have hbel:=Lib.hid (below_made hgrow);clear hown hgrow hi hz0 hz1 hz2)
 generalize hg:w.heap.size=g at hblk hbel
 have HG:=Lib.hid hg
 clear hg
 go_loopw [16] (fun v wr=> ∃(i:Nat),i≤k∧v=.int .i64 i∧Hid (Below g w wr∧ ∃L,RowsInv g l zb x (l+k) i wr L)) (fun v _=>k-(intOf v).toNat)
 case atStart=>exact⟨0,Nat.zero_le _,rfl,Lib.hid ⟨hbel.out,_,rows_start hblk.out⟩⟩
 case round=>
  obtain⟨i,him,rfl,hr⟩:=hrel
  by_cases hlt:i<k
  ·obtain⟨hbw,L,hL⟩:=hr.out
   have cA:=(hbw.cell (p:=⟨b2,off2+i,none⟩) (by have:=HLT2.out;have:=HG.out;simp;omega)).trans (H2.out.row i (by rw[HK.out];omega))
   have HI:=Lib.hid hL
   have HBw:=Lib.hid hbw
   have HA:=Lib.hid (H.out.below (w':=wr) (by rw[HG.out];exact hbw))
   obtain⟨b0,b1⟩:=gd_bounds H2.out.wd i
   have HC:Hid (∀cp:Nat,Calls Tryz.prog 263 #[.slice (some ⟨g,i,none⟩) l cp,.slice (some ⟨b,off,none⟩) l cap,.int .u64 (gd zb i)] wr (ProdPost wr g i l L (x*gd zb i))):=Lib.hid fun cp=>by
    have h:=addProduct_any wr g i l cp L HI.out.blk HI.out.wd b off cap za (by rw[HL.out,HI.out.len];omega) (by rw[HI.out.len];omega) (by rw[HL.out];exact Nat.le_refl _) (by rw[HL.out];exact hcap) HA.out.wd HA.out.row (by have:=HLT.out;have:=HG.out;omega) (gd zb i) b0 b1
    rw[HL.out,HA.out.val]at h
    exact h
   clear hr hL hbw b0 b1
   go_wp2_with (go_at_call 263;refine(HC.out _).mono ?_;rintro e w' ⟨c,M',c0,c1,rfl,h1,h2,h3,h4,h5,h6⟩;have cO:=h6.cell (i+l) (by rw[h2,HI.out.len];omega);have fO:=h6.frozen (i+l);have HP:=Lib.hid (And.intro c0 (And.intro c1 (And.intro h1 (And.intro h2 (And.intro h3 (And.intro h4 (And.intro h5 h6)))))));clear c0 c1 h1 h2 h3 h4 h5 h6)
   obtain⟨c0,c1,h1,h2,h3,h4,h5,h6⟩:=HP.out
   go_roundw
   case rel=>exact⟨i+1,by omega,by go_num,Lib.hid ⟨below_set (HBw.out.grown h1 (by have:=HBw.out.size;have:=HG.out;omega) (fun _ hk=>by cases hk;exact Nat.le_refl _)) (Nat.le_refl _) _ _,_,rows_step (by omega) HI.out c0 c1 h2 h3 h4 h5 (h6.set _ _)⟩⟩
   case measure=>simp[intOf]<;>omega
  ·have hie:i=k:=by omega
   subst hie
   clear hlt him
   obtain⟨hbw,L,hL⟩:=hr.out
   have HH:=Lib.hid hL
   have HBw:=Lib.hid hbw
   clear hr hL hbw
   have hcut:=cut_any g 0 (l+i) L wr (by rw[HH.out.len];omega) (by rw[HH.out.len];exact Nat.le_refl _) HH.out.blk.row
   rw[HH.out.len]at hcut
   have HC:=Lib.hid hcut
   clear hcut
   go_wp2_with fail
   refine HC.out.mono ?_
   rintro e w' ⟨rfl,m',hm1,hm2,hm3,rfl⟩
   go_wp2_with fail
   go_ret
   refine⟨_,rfl,?_,by rw[HG.out];exact HBw.out⟩
   have hv:=HH.out.val
   rw[show zb.take i=zb by rw[←HK.out,List.take_length],H2.out.val]at hv
   rw[←hv]
   exact nt_cut HH.out.blk.row HH.out.blk.lt HH.out.blk.ty HH.out.wd (by rw[HH.out.len];exact Nat.le_refl _) m' hm1 hm2 hm3
theorem Ns.one{w:World}{b off cap:Nat}{zs:List Int}{n:Int}(h:Ns w b off cap zs n)(h1:zs.length=1):gd zs 0=n:=by
 have h2:=h.val
 match zs,h1 with
 |[z],_=>
  simp only[nv]at h2
  simp[gd]
  omega
theorem mul_ge(w:World)(b off cap:Nat)(za:List Int)(x:Int)(b2 off2 cap2:Nat)(zb:List Int)(y:Int)(ha:Ns w b off cap za x)(hb:Ns w b2 off2 cap2 zb y)(hx:x<big)(hy:y<big)(hl:zb.length≤za.length)(h40:zb.length<40):
 Calls Tryz.prog 202 #[.slice (some ⟨b,off,none⟩) za.length cap,.slice (some ⟨b2,off2,none⟩) zb.length cap2] w (NewNt w (x*y)):=by
 have HR:=Lib.hid (mulRows_any w b off cap za x b2 off2 cap2 zb y ha hb hx hy)
 have cB:=hb.row 0 hb.pos
 have hla:=ha.len hx
 have hpos:=hb.pos
 have hcap:=ha.cap
 have hcap2:=hb.cap
 obtain⟨y0,y1⟩:=gd_bounds hb.wd 0
 have HS:=Lib.hid (scale_any w b off cap za x (gd zb 0) 0 ha hx y0 y1 (Int.le_refl 0) (by decide))
 have H2:=Lib.hid hb
 rw[Nat.add_zero]at cB
 clear ha hb hx hy
 obtain⟨l,hl'⟩: ∃l,za.length=l:=⟨_,rfl⟩
 obtain⟨k,hk'⟩: ∃k,zb.length=k:=⟨_,rfl⟩
 have HK:=Lib.hid hk'
 rw[hl']at HR HS hla hcap hl⊢
 rw[hk']at HR hcap2 hpos hl h40⊢
 clear hl' hk' y0 y1
 by_cases h1:k=1
 ·subst h1
  have hv:gd zb 0=y:=H2.out.one HK.out
  have HV:=Lib.hid hv
  clear hv
  go_enter Tryz.func202,Tryz.ntmps202
  go_wp2_with (go_at_call 209;refine HS.out.mono ?_;rintro e w' ⟨v,rfl,hv,hb⟩;obtain⟨bo,lb,cb,rfl⟩:=hv.shape)
  go_ret
  rw[HV.out,Int.add_zero]at hv
  exact⟨_,rfl,hv,hb⟩
 ·clear HS cB
  go_enter Tryz.func202,Tryz.ntmps202
  go_wp2_with (go_at_call 232;refine HR.out.mono ?_;rintro e w' ⟨v,rfl,hv,hb⟩;obtain⟨bo,lb,cb,rfl⟩:=hv.shape)
  go_ret
  exact⟨_,rfl,hv,hb⟩
theorem mul_lt(w:World)(b off cap:Nat)(za:List Int)(x:Int)(b2 off2 cap2:Nat)(zb:List Int)(y:Int)(ha:Ns w b off cap za x)(hb:Ns w b2 off2 cap2 zb y)(hx:x<big)(hy:y<big)(hl:zb.length<za.length)(h40:zb.length<40):
 Calls Tryz.prog 202 #[.slice (some ⟨b2,off2,none⟩) zb.length cap2,.slice (some ⟨b,off,none⟩) za.length cap] w (NewNt w (x*y)):=by
 have HR:=Lib.hid (mulRows_any w b off cap za x b2 off2 cap2 zb y ha hb hx hy)
 have cB:=hb.row 0 hb.pos
 have hla:=ha.len hx
 have hpos:=hb.pos
 have hcap:=ha.cap
 have hcap2:=hb.cap
 obtain⟨y0,y1⟩:=gd_bounds hb.wd 0
 have HS:=Lib.hid (scale_any w b off cap za x (gd zb 0) 0 ha hx y0 y1 (Int.le_refl 0) (by decide))
 have H2:=Lib.hid hb
 rw[Nat.add_zero]at cB
 clear ha hb hx hy
 obtain⟨l,hl'⟩: ∃l,za.length=l:=⟨_,rfl⟩
 obtain⟨k,hk'⟩: ∃k,zb.length=k:=⟨_,rfl⟩
 have HK:=Lib.hid hk'
 rw[hl']at HR HS hla hcap hl⊢
 rw[hk']at HR hcap2 hpos hl h40⊢
 clear hl' hk' y0 y1
 by_cases h1:k=1
 ·subst h1
  have hv:gd zb 0=y:=H2.out.one HK.out
  have HV:=Lib.hid hv
  clear hv
  go_enter Tryz.func202,Tryz.ntmps202
  go_wp2_with (go_at_call 209;refine HS.out.mono ?_;rintro e w' ⟨v,rfl,hv,hb⟩;obtain⟨bo,lb,cb,rfl⟩:=hv.shape)
  go_ret
  rw[HV.out,Int.add_zero]at hv
  exact⟨_,rfl,hv,hb⟩
 ·clear HS cB
  go_enter Tryz.func202,Tryz.ntmps202
  go_wp2_with (go_at_call 232;refine HR.out.mono ?_;rintro e w' ⟨v,rfl,hv,hb⟩;obtain⟨bo,lb,cb,rfl⟩:=hv.shape)
  go_ret
  exact⟨_,rfl,hv,hb⟩
theorem mul_short(w:World)(b off cap:Nat)(za:List Int)(x:Int)(b2 off2 cap2:Nat)(zb:List Int)(y:Int)(ha:Ns w b off cap za x)(hb:Ns w b2 off2 cap2 zb y)(hx:x<big)(hy:y<big)(h40:za.length<40∨zb.length<40):
 Calls Tryz.prog 202 #[.slice (some ⟨b,off,none⟩) za.length cap,.slice (some ⟨b2,off2,none⟩) zb.length cap2] w (NewNt w (x*y)):=by
 by_cases hl:zb.length≤za.length
 ·exact mul_ge w b off cap za x b2 off2 cap2 zb y ha hb hx hy hl (by omega)
 ·have:=mul_lt w b2 off2 cap2 zb y b off cap za x hb ha hy hx (by omega) (by omega)
  rwa [Int.mul_comm y x]at this
structure DigInv(u c h l q r:Int):Prop where
 eq:q*h+r=u
 q0:0≤q
 q1:q≤4294967297
 r0:0≤r
 r1:r<4294967296
 up:u*4294967296+c<(q+1)*(h*4294967296+l)
structure DigArgs(u c h l:Int):Prop where
 h0:2147483648≤h
 h1:h<4294967296
 l0:0≤l
 l1:l<4294967296
 c0:0≤c
 c1:c<4294967296
 u0:0≤u
 u1:u<h*4294967296+l
def DigEnd(u c h l q:Int):Prop:=0≤q∧q<4294967296∧q*(h*4294967296+l)≤u*4294967296+c∧u*4294967296+c<(q+1)*(h*4294967296+l)
theorem dig_start{u c h l:Int}(A:DigArgs u c h l):DigInv u c h l (u/h) (u-u/h*h):=by
 obtain⟨h0,h1,l0,l1,c0,c1,u0,u1⟩:=A
 have e:=Int.mul_ediv_add_emod u h
 have r0:=Int.emod_nonneg u (show h≠0 by omega)
 have r1:=Int.emod_lt_of_pos u (show 0<h by omega)
 have q0:0≤u/h:=Int.ediv_nonneg u0 (by omega)
 rw[Int.mul_comm]at e
 generalize u/h=q at*
 generalize u%h=r at*
 refine⟨by omega,q0,?_,by omega,by omega,?_⟩
 ·apply Classical.byContradiction
  intro hc
  have:=Int.mul_le_mul_of_nonneg_right (show 4294967298≤q by omega) (show 0≤h by omega)
  omega
 ·have e1:(q+1)*(h*4294967296+l)=(q*h+h)*4294967296+(q+1)*l:=by grind
  have e2:0≤(q+1)*l:=Int.mul_nonneg (by omega) l0
  rw[e1];omega
theorem dig_less{u c h l q r:Int}(A:DigArgs u c h l)(I:DigInv u c h l q r)(hc:4294967296≤q∨r*4294967296+c<q*l):1≤q∧u*4294967296+c<q*(h*4294967296+l):=by
 obtain⟨h0,h1,l0,l1,c0,c1,u0,u1⟩:=A
 obtain⟨eq,q0,q1,r0,r1,up⟩:=I
 have hlt:u*4294967296+c<q*(h*4294967296+l):=by
  rcases hc with hc|hc
  ·have:=Int.mul_le_mul_of_nonneg_right hc (show 0≤h*4294967296+l by omega)
   omega
  ·have e1:q*(h*4294967296+l)=q*h*4294967296+q*l:=by grind
   rw[e1];omega
 refine⟨?_,hlt⟩
 apply Classical.byContradiction
 intro hq
 have hz:q=0:=by omega
 rw[hz,Int.zero_mul]at hlt
 omega
theorem dig_step{u c h l q r:Int}(A:DigArgs u c h l)(I:DigInv u c h l q r)(hc:4294967296≤q∨r*4294967296+c<q*l)(hr:r+h<4294967296):DigInv u c h l (q-1) (r+h):=by
 obtain⟨g0,g1⟩:=dig_less A I hc
 have h0:=A.h0
 obtain⟨eq,q0,q1,r0,r1,up⟩:=I
 refine⟨?_,by omega,by omega,by omega,hr,by rw[show q-1+1=q by omega];exact g1⟩
 rw[Int.sub_mul,Int.one_mul];omega
theorem dig_end{u c h l q:Int}(A:DigArgs u c h l)(q0:0≤q)(h1:q*(h*4294967296+l)≤u*4294967296+c)(h2:u*4294967296+c<(q+1)*(h*4294967296+l)):DigEnd u c h l q:=by
 refine⟨q0,?_,h1,h2⟩
 apply Classical.byContradiction
 intro hc
 have:=Int.mul_le_mul_of_nonneg_right (show 4294967296≤q by omega) (show 0≤h*4294967296+l by have:=A.h0;have:=A.l0;omega)
 have:=A.u1;have:=A.c1
 omega
theorem dig_break{u c h l q r:Int}(A:DigArgs u c h l)(I:DigInv u c h l q r)(hc:4294967296≤q∨r*4294967296+c<q*l)(hr:4294967296≤r+h):DigEnd u c h l (q-1):=by
 obtain⟨g0,g1⟩:=dig_less A I hc
 refine dig_end A (by omega) ?_ (by rw[show q-1+1=q by omega];exact g1)
 obtain⟨h0,h1,l0,l1,c0,c1,u0,u1⟩:=A
 obtain⟨eq,q0,q1,r0,r1,up⟩:=I
 have e1:(q-1)*(h*4294967296+l)=q*h*4294967296-h*4294967296+(q-1)*l:=by grind
 have e2:(q-1)*l≤4294967296*l:=Int.mul_le_mul_of_nonneg_right (by omega) l0
 rw[e1];omega
theorem dig_exit{u c h l q r:Int}(A:DigArgs u c h l)(I:DigInv u c h l q r)(hc:q*l≤r*4294967296+c):DigEnd u c h l q:=by
 refine dig_end A I.q0 ?_ I.up
 have e1:q*(h*4294967296+l)=q*h*4294967296+q*l:=by grind
 have:=I.eq
 rw[e1];omega
theorem dig_next{u c h l q:Int}(E:DigEnd u c h l q):0≤u*4294967296+c-q*(h*4294967296+l)∧u*4294967296+c-q*(h*4294967296+l)<h*4294967296+l:=by
 obtain⟨_,_,h1,h2⟩:=E
 rw[Int.add_mul,Int.one_mul]at h2
 omega
theorem dig_both{n y u c d h l q1 q0:Int}{s:Nat}(hn:n*2^s=(u*4294967296+c)*4294967296+d)(hy:y*2^s=h*4294967296+l)(y0:0<y)
 (E1:DigEnd u c h l q1) (E0:DigEnd (u*4294967296+c-q1*(h*4294967296+l)) d h l q0):
 n/y=q1*4294967296+q0∧n%y=((u*4294967296+c-q1*(h*4294967296+l))*4294967296+d-q0*(h*4294967296+l))/2^s:=by
 have hp:=p2pos s
 obtain⟨a0,a1,a2,a3⟩:=E1
 obtain⟨b0,b1,b2,b3⟩:=E0
 rw[←hy]at*
 generalize hr:(u*4294967296+c-q1*(y*2^s))*4294967296+d-q0*(y*2^s)=r at*
 have hr0:0≤r:=by omega
 have hr1:r<y*2^s:=by rw[Int.add_mul,Int.one_mul]at b3;omega
 have e:n*2^s=(q1*4294967296+q0)*(y*2^s)+r:=by rw[hn,←hr];grind
 have e2:r=(n-(q1*4294967296+q0)*y)*2^s:=by
  rw[Int.sub_mul,e,Int.mul_assoc];omega
 have e3:r/2^s=n-(q1*4294967296+q0)*y:=by rw[e2,Int.mul_ediv_cancel _ (Int.ne_of_gt hp)]
 rw[e3]
 generalize q1*4294967296+q0=q at*
 have h0:0≤n-q*y:=by
  apply Classical.byContradiction
  intro hc
  have:=Int.mul_neg_of_neg_of_pos (show n-q*y<0 by omega) hp
  omega
 have h1:n-q*y<y:=Int.lt_of_mul_lt_mul_right (by rw[←e2];exact hr1) (Int.le_of_lt hp)
 have hq:n/y=q:=by
  have:n=(n-q*y)+q*y:=by omega
  rw[this,Int.add_mul_ediv_right _ _ (Int.ne_of_gt y0),Int.ediv_eq_zero_of_lt h0 h1,Int.zero_add]
 refine⟨hq,?_⟩
 have:=Int.mul_ediv_add_emod n y
 rw[hq,Int.mul_comm]at this
 omega
theorem and_low32(x:Int)(h0:0≤x)(h1:x<18446744073709551616):bits BinOp.and IntKind.u64 x 4294967295=x%4294967296:=by
 obtain⟨x,rfl⟩:=Int.eq_ofNat_of_zero_le h0
 have h:=bits_and_u64_nat x 4294967295 (by omega) (by omega)
 have e:x&&&4294967295=x%4294967296:=Nat.and_two_pow_sub_one_eq_mod x 32
 rw[e]at h
 rw[show((4294967295:Nat):Int)=4294967295 from rfl]at h
 rw[h]
 omega
theorem wrapU{x:Int}(h0:0≤x)(h1:x<18446744073709551616):IntKind.u64.wrap x=x:=by rw[IntKind.wrap_u64];omega
theorem div_shift{hi lo y:Int}{bl:Nat}(hi0:0<hi)(hy:hi<y)(lo0:0≤lo)(lo1:lo<18446744073709551616)(yW:y<18446744073709551616)(b1:1≤bl)(b2:bl≤64)(y0:2^(bl-1)≤y)(y1:y<2^bl):
 ∃Y U T:Int,IntKind.u64.wrap (y*2^(64-bl))=Y∧bits BinOp.or IntKind.u64 (IntKind.u64.wrap (hi*2^(64-bl))) (lo/2^(64-(64-bl)))=U∧IntKind.u64.wrap (lo*2^(64-bl))=T∧
  y*2^(64-bl)=Y∧9223372036854775808≤Y∧Y<18446744073709551616∧0≤U∧U<Y∧0≤T∧T<18446744073709551616∧(hi*18446744073709551616+lo)*2^(64-bl)=U*18446744073709551616+T:=by
 obtain⟨s,hs⟩: ∃s,64-bl=s:=⟨_,rfl⟩
 obtain rfl:bl=64-s:=by omega
 have hs63:s≤63:=by omega
 rw[show 64-(64-s)=s by omega]at*
 have hp:=p2pos s
 have e64:(2:Int)^(64-s)*2^s=18446744073709551616:=by rw[←Int.pow_add,show 64-s+s=64 by omega];rfl
 have e63:(2:Int)^(64-s-1)*2^s=9223372036854775808:=by rw[←Int.pow_add,show 64-s-1+s=63 by omega];rfl
 have k1:y*2^s<2^(64-s)*2^s:=Int.mul_lt_mul_of_pos_right y1 hp
 have k2:(2:Int)^(64-s-1)*2^s≤y*2^s:=Int.mul_le_mul_of_nonneg_right y0 (Int.le_of_lt hp)
 have k3:hi*2^s<y*2^s:=Int.mul_lt_mul_of_pos_right hy hp
 have k4:0≤hi*2^s:=Int.mul_nonneg (by omega) (Int.le_of_lt hp)
 have hx:=div_lt_p2 lo s hs63 lo1
 have hx0:0≤lo/2^(64-s):=Int.ediv_nonneg lo0 (Int.le_of_lt (p2pos _))
 have hor:=or_high (lo/2^(64-s)) hi s hs63 hx0 hx (by omega) (by omega)
 rw[Int.emod_eq_of_lt k4 (by omega)]at hor
 have q1:=Int.mul_ediv_add_emod lo (2^(64-s))
 have q2:=Int.emod_nonneg lo (Int.ne_of_gt (p2pos (64-s)))
 have q3:=Int.emod_lt_of_pos lo (p2pos (64-s))
 have q4:lo*2^s=(lo/2^(64-s))*18446744073709551616+(lo%2^(64-s))*2^s:=by rw[←e64,←Int.mul_assoc,←Int.add_mul];congr 1;rw[Int.mul_comm];omega
 have q5:(lo%2^(64-s))*2^s<2^(64-s)*2^s:=Int.mul_lt_mul_of_pos_right q3 hp
 have q6:0≤(lo%2^(64-s))*2^s:=Int.mul_nonneg q2 (Int.le_of_lt hp)
 have hT:IntKind.u64.wrap (lo*2^s)=(lo%2^(64-s))*2^s:=by rw[IntKind.wrap_u64,q4];omega
 have hUY:hi*2^s+lo/2^(64-s)<y*2^s:=by
  have:=Int.mul_le_mul_of_nonneg_right (show hi+1≤y by omega) (Int.le_of_lt hp)
  rw[Int.add_mul,Int.one_mul]at this
  omega
 refine⟨y*2^s,_,_,wrapU (by omega) (by omega),hor,hT,rfl,by omega,by omega,by omega,hUY,q6,by omega,?_⟩
 rw[Int.add_mul,q4]
 grind
theorem div_mid{U c q1 Y h l V:Int}(hY:Y=h*4294967296+l)(hV:U*4294967296+c-q1*(h*4294967296+l)=V)(V0:0≤V)(V1:V<18446744073709551616):
 IntKind.u64.wrap (IntKind.u64.wrap (IntKind.u64.wrap (U*4294967296)+c)-IntKind.u64.wrap (q1*Y))=V:=by
 rw[IntKind.wrap_u64,IntKind.wrap_u64,IntKind.wrap_u64,IntKind.wrap_u64]
 rw[←hY]at hV
 generalize q1*Y=p at*
 omega
theorem div_fin{w:World}{n y U c d h l V Y q1 q0:Int}{s:Nat}(hn:n*2^s=(U*4294967296+c)*4294967296+d)(hy:y*2^s=h*4294967296+l)(hV:U*4294967296+c-q1*(h*4294967296+l)=V)
 (E1:DigEnd U c h l q1) (E0:DigEnd V d h l q0) (y0:0<y) (hY:Y=h*4294967296+l) (Y1:Y<18446744073709551616):
 DrewPost w (.tuple #[.int .u64 (n/y),.int .u64 (n%y)]) (.returned (.tuple #[.int .u64 (q1*4294967296+q0),.int .u64 (IntKind.u64.wrap (IntKind.u64.wrap (IntKind.u64.wrap (V*4294967296)+d)-IntKind.u64.wrap (q0*Y))/2^s)])) w:=by
 have E0':=E0
 rw[←hV]at E0'
 obtain⟨z1,z2⟩:=dig_both hn hy y0 E1 E0'
 obtain⟨v0,v1⟩:=dig_next E0
 rw[hV]at z2
 have k2:=div_mid (q1:=q0) hY rfl v0 (by omega)
 rw[k2,z1,z2]
 exact⟨rfl,Drw.refl _⟩
theorem div64_big(w:World)(hi lo y:Int)(hi0:0<hi)(hy:hi<y)(lo0:0≤lo)(lo1:lo<18446744073709551616)(y1:y<18446744073709551616):
 Calls Tryz.prog 285 #[.int .u64 hi,.int .u64 lo,.int .u64 y] w (DrewPost w (.tuple #[.int .u64 ((hi*18446744073709551616+lo)/y),.int .u64 ((hi*18446744073709551616+lo)%y)])):=by
 obtain⟨s1,s2,s3⟩:=blen_spec (show 0<y by omega)
 have hbl:=blen_le64 y1
 obtain⟨Y,U,T,fY,fU,fT,eY,Y0,Y1,U0,U1,T0,T1,eN⟩:=div_shift hi0 hy lo0 lo1 y1 s3 hbl s1 s2
 have HLd:=Lib.hid (fun w=>lead_any y w (by omega) y1)
 have fl:=and_low32 Y (by omega) Y1
 have fd:=and_low32 T T0 T1
 generalize blen y=bl at*
 obtain⟨h,fh⟩: ∃h,Y/4294967296=h:=⟨_,rfl⟩
 obtain⟨l,hl⟩: ∃l,Y%4294967296=l:=⟨_,rfl⟩
 obtain⟨c,fc⟩: ∃c,T/4294967296=c:=⟨_,rfl⟩
 obtain⟨d,hd⟩: ∃d,T%4294967296=d:=⟨_,rfl⟩
 rw[hl]at fl
 rw[hd]at fd
 have h0:2147483648≤h:=by omega
 have h1:h<4294967296:=by omega
 have l0:0≤l:=by omega
 have l1:l<4294967296:=by omega
 have c0:0≤c:=by omega
 have c1:c<4294967296:=by omega
 have d0:0≤d:=by omega
 have d1:d<4294967296:=by omega
 have HY2:Hid (Y=h*4294967296+l):=Lib.hid (by omega)
 have HY:Hid (y*2^(64-bl)=h*4294967296+l):=Lib.hid (by omega)
 have HN:Hid ((hi*18446744073709551616+lo)*2^(64-bl)=(U*4294967296+c)*4294967296+d):=Lib.hid (by omega)
 have HA:Hid (DigArgs U c h l):=Lib.hid ⟨h0,h1,l0,l1,c0,c1,U0,by omega⟩
 have i1:=dig_start HA.out
 obtain⟨q,hq⟩: ∃q,U/h=q:=⟨_,rfl⟩
 rw[hq]at i1
 have m0:0≤q*h:=Int.mul_nonneg i1.q0 (by omega)
 have m1:=i1.r0
 have HI1:=Lib.hid i1
 have HQ1:=Lib.hid hq
 have y0:0<y:=by omega
 clear i1 eY eN s1 s2 hl hd
 go_enter Tryz.func285,Tryz.ntmps285
 go_wp2_with (go_at_call 214;refine(HLd.out _).mono ?_;rintro en w' ⟨rfl,rfl⟩)
 clear HLd fY fU fT fl fd fh fc hq m0 m1
 go_loopw [15,16] (fun x z wr=> ∃a b:Int,x=.int .u64 a∧z=.int .u64 b∧Hid (wr=w)∧Hid (DigInv U c h l a b)) (fun x _ _=>(intOf x).toNat)
 case atStart=>exact⟨q,_,by first|rfl|exact congrArg (Value.int .u64) HQ1.out,rfl,by first|exact Lib.hid rfl|exact Lib.hid trivial,HI1⟩
 case round=>
  clear HI1 HQ1
  obtain⟨a1,b1,rfl,rfl,hwr,hI1⟩:=hrel
  have hwq:=hwr.out
  clear hwr
  subst wr
  have i1a:=hI1.out.q0
  have i1b:=hI1.out.q1
  have i1c:=hI1.out.r0
  have i1d:=hI1.out.r1
  by_cases ca1:4294967296≤a1
  ·by_cases cb1:4294967296≤b1+h
   ·have HE1:Hid (DigEnd U c h l (a1-1)):=Lib.hid (dig_break HA.out hI1.out (.inl ca1) cb1)
    clear hI1
    obtain⟨V0,V1⟩:=dig_next HE1.out
    obtain⟨V,hV⟩: ∃V,U*4294967296+c-(a1-1)*(h*4294967296+l)=V:=⟨_,rfl⟩
    rw[hV]at V0 V1
    have HV:=Lib.hid hV
    have G:=Lib.hid (div_mid HY2.out hV V0 (by omega))
    have HA2:Hid (DigArgs V d h l):=Lib.hid ⟨h0,h1,l0,l1,d0,d1,V0,V1⟩
    have i2:=dig_start HA2.out
    obtain⟨q2,hq2⟩: ∃q2,V/h=q2:=⟨_,rfl⟩
    rw[hq2]at i2
    have m0:0≤q2*h:=Int.mul_nonneg i2.q0 (by omega)
    have m1:=i2.r0
    have HI2:=Lib.hid i2
    have HQ2:=Lib.hid hq2
    clear i2 hV
    go_wp2_with (simp only[G.out])
    clear G hq2 m0 m1
    go_loopw [18,16] (fun x z wr=> ∃a b:Int,x=.int .u64 a∧z=.int .u64 b∧Hid (wr=w)∧Hid (DigInv V d h l a b)) (fun x _ _=>(intOf x).toNat)
    case atStart=>exact⟨q2,_,by first|rfl|exact congrArg (Value.int .u64) HQ2.out,rfl,by first|exact Lib.hid rfl|exact Lib.hid trivial,HI2⟩
    case round=>
     clear HI2 HQ2
     obtain⟨a0,b0,rfl,rfl,hwr,hI0⟩:=hrel
     have hwq:=hwr.out
     clear hwr
     subst wr
     have i0a:=hI0.out.q0
     have i0b:=hI0.out.q1
     have i0c:=hI0.out.r0
     have i0d:=hI0.out.r1
     by_cases ca0:4294967296≤a0
     ·by_cases cb0:4294967296≤b0+h
      ·have HE0:Hid (DigEnd V d h l (a0-1)):=Lib.hid (dig_break HA2.out hI0.out (.inl ca0) cb0)
       clear hI0
       obtain⟨f0,f1,_,_⟩:=HE0.out
       obtain⟨f2,f3,_,_⟩:=HE1.out
       go_wp2_with fail
       go_ret2
       exact div_fin HN.out HY.out HV.out HE1.out HE0.out y0 HY2.out Y1
      ·have HI:Hid (DigInv V d h l (a0-1) (b0+h)):=Lib.hid (dig_step HA2.out hI0.out (.inl ca0) (by omega))
       clear hI0
       go_wp2_with fail
       go_roundw
       case rel=>exact⟨_,_,rfl,rfl,by first|exact Lib.hid rfl|exact Lib.hid trivial,HI⟩
       case measure=>simp[intOf]<;>omega
     ·have p0a:0≤a0*l:=Int.mul_nonneg i0a l0
      have p0b:a0*l≤4294967295*l:=Int.mul_le_mul_of_nonneg_right (by omega) l0
      by_cases cc0:4294967296*b0+d<a0*l
      ·have cd0:1≤a0:=(dig_less HA2.out hI0.out (.inr (by omega))).1
       by_cases cb0:4294967296≤b0+h
       ·have HE0:Hid (DigEnd V d h l (a0-1)):=Lib.hid (dig_break HA2.out hI0.out (.inr (by omega)) cb0)
        clear hI0
        obtain⟨f0,f1,_,_⟩:=HE0.out
        obtain⟨f2,f3,_,_⟩:=HE1.out
        go_wp2_with fail
        go_ret2
        exact div_fin HN.out HY.out HV.out HE1.out HE0.out y0 HY2.out Y1
       ·have HI:Hid (DigInv V d h l (a0-1) (b0+h)):=Lib.hid (dig_step HA2.out hI0.out (.inr (by omega)) (by omega))
        clear hI0
        go_wp2_with fail
        go_roundw
        case rel=>exact⟨_,_,rfl,rfl,by first|exact Lib.hid rfl|exact Lib.hid trivial,HI⟩
        case measure=>simp[intOf]<;>omega
      ·have HE0:Hid (DigEnd V d h l a0):=Lib.hid (dig_exit HA2.out hI0.out (by omega))
       clear hI0
       obtain⟨f0,f1,_,_⟩:=HE0.out
       obtain⟨f2,f3,_,_⟩:=HE1.out
       go_wp2_with fail
       go_ret2
       exact div_fin HN.out HY.out HV.out HE1.out HE0.out y0 HY2.out Y1
   ·have HI:Hid (DigInv U c h l (a1-1) (b1+h)):=Lib.hid (dig_step HA.out hI1.out (.inl ca1) (by omega))
    clear hI1
    go_wp2_with fail
    go_roundw
    case rel=>exact⟨_,_,rfl,rfl,by first|exact Lib.hid rfl|exact Lib.hid trivial,HI⟩
    case measure=>simp[intOf]<;>omega
  ·have p1a:0≤a1*l:=Int.mul_nonneg i1a l0
   have p1b:a1*l≤4294967295*l:=Int.mul_le_mul_of_nonneg_right (by omega) l0
   by_cases cc1:4294967296*b1+c<a1*l
   ·have cd1:1≤a1:=(dig_less HA.out hI1.out (.inr (by omega))).1
    by_cases cb1:4294967296≤b1+h
    ·have HE1:Hid (DigEnd U c h l (a1-1)):=Lib.hid (dig_break HA.out hI1.out (.inr (by omega)) cb1)
     clear hI1
     obtain⟨V0,V1⟩:=dig_next HE1.out
     obtain⟨V,hV⟩: ∃V,U*4294967296+c-(a1-1)*(h*4294967296+l)=V:=⟨_,rfl⟩
     rw[hV]at V0 V1
     have HV:=Lib.hid hV
     have G:=Lib.hid (div_mid HY2.out hV V0 (by omega))
     have HA2:Hid (DigArgs V d h l):=Lib.hid ⟨h0,h1,l0,l1,d0,d1,V0,V1⟩
     have i2:=dig_start HA2.out
     obtain⟨q2,hq2⟩: ∃q2,V/h=q2:=⟨_,rfl⟩
     rw[hq2]at i2
     have m0:0≤q2*h:=Int.mul_nonneg i2.q0 (by omega)
     have m1:=i2.r0
     have HI2:=Lib.hid i2
     have HQ2:=Lib.hid hq2
     clear i2 hV
     go_wp2_with (simp only[G.out])
     clear G hq2 m0 m1
     go_loopw [18,16] (fun x z wr=> ∃a b:Int,x=.int .u64 a∧z=.int .u64 b∧Hid (wr=w)∧Hid (DigInv V d h l a b)) (fun x _ _=>(intOf x).toNat)
     case atStart=>exact⟨q2,_,by first|rfl|exact congrArg (Value.int .u64) HQ2.out,rfl,by first|exact Lib.hid rfl|exact Lib.hid trivial,HI2⟩
     case round=>
      clear HI2 HQ2
      obtain⟨a0,b0,rfl,rfl,hwr,hI0⟩:=hrel
      have hwq:=hwr.out
      clear hwr
      subst wr
      have i0a:=hI0.out.q0
      have i0b:=hI0.out.q1
      have i0c:=hI0.out.r0
      have i0d:=hI0.out.r1
      by_cases ca0:4294967296≤a0
      ·by_cases cb0:4294967296≤b0+h
       ·have HE0:Hid (DigEnd V d h l (a0-1)):=Lib.hid (dig_break HA2.out hI0.out (.inl ca0) cb0)
        clear hI0
        obtain⟨f0,f1,_,_⟩:=HE0.out
        obtain⟨f2,f3,_,_⟩:=HE1.out
        go_wp2_with fail
        go_ret2
        exact div_fin HN.out HY.out HV.out HE1.out HE0.out y0 HY2.out Y1
       ·have HI:Hid (DigInv V d h l (a0-1) (b0+h)):=Lib.hid (dig_step HA2.out hI0.out (.inl ca0) (by omega))
        clear hI0
        go_wp2_with fail
        go_roundw
        case rel=>exact⟨_,_,rfl,rfl,by first|exact Lib.hid rfl|exact Lib.hid trivial,HI⟩
        case measure=>simp[intOf]<;>omega
      ·have p0a:0≤a0*l:=Int.mul_nonneg i0a l0
       have p0b:a0*l≤4294967295*l:=Int.mul_le_mul_of_nonneg_right (by omega) l0
       by_cases cc0:4294967296*b0+d<a0*l
       ·have cd0:1≤a0:=(dig_less HA2.out hI0.out (.inr (by omega))).1
        by_cases cb0:4294967296≤b0+h
        ·have HE0:Hid (DigEnd V d h l (a0-1)):=Lib.hid (dig_break HA2.out hI0.out (.inr (by omega)) cb0)
         clear hI0
         obtain⟨f0,f1,_,_⟩:=HE0.out
         obtain⟨f2,f3,_,_⟩:=HE1.out
         go_wp2_with fail
         go_ret2
         exact div_fin HN.out HY.out HV.out HE1.out HE0.out y0 HY2.out Y1
        ·have HI:Hid (DigInv V d h l (a0-1) (b0+h)):=Lib.hid (dig_step HA2.out hI0.out (.inr (by omega)) (by omega))
         clear hI0
         go_wp2_with fail
         go_roundw
         case rel=>exact⟨_,_,rfl,rfl,by first|exact Lib.hid rfl|exact Lib.hid trivial,HI⟩
         case measure=>simp[intOf]<;>omega
       ·have HE0:Hid (DigEnd V d h l a0):=Lib.hid (dig_exit HA2.out hI0.out (by omega))
        clear hI0
        obtain⟨f0,f1,_,_⟩:=HE0.out
        obtain⟨f2,f3,_,_⟩:=HE1.out
        go_wp2_with fail
        go_ret2
        exact div_fin HN.out HY.out HV.out HE1.out HE0.out y0 HY2.out Y1
    ·have HI:Hid (DigInv U c h l (a1-1) (b1+h)):=Lib.hid (dig_step HA.out hI1.out (.inr (by omega)) (by omega))
     clear hI1
     go_wp2_with fail
     go_roundw
     case rel=>exact⟨_,_,rfl,rfl,by first|exact Lib.hid rfl|exact Lib.hid trivial,HI⟩
     case measure=>simp[intOf]<;>omega
   ·have HE1:Hid (DigEnd U c h l a1):=Lib.hid (dig_exit HA.out hI1.out (by omega))
    clear hI1
    obtain⟨V0,V1⟩:=dig_next HE1.out
    obtain⟨V,hV⟩: ∃V,U*4294967296+c-a1*(h*4294967296+l)=V:=⟨_,rfl⟩
    rw[hV]at V0 V1
    have HV:=Lib.hid hV
    have G:=Lib.hid (div_mid HY2.out hV V0 (by omega))
    have HA2:Hid (DigArgs V d h l):=Lib.hid ⟨h0,h1,l0,l1,d0,d1,V0,V1⟩
    have i2:=dig_start HA2.out
    obtain⟨q2,hq2⟩: ∃q2,V/h=q2:=⟨_,rfl⟩
    rw[hq2]at i2
    have m0:0≤q2*h:=Int.mul_nonneg i2.q0 (by omega)
    have m1:=i2.r0
    have HI2:=Lib.hid i2
    have HQ2:=Lib.hid hq2
    clear i2 hV
    go_wp2_with (simp only[G.out])
    clear G hq2 m0 m1
    go_loopw [18,16] (fun x z wr=> ∃a b:Int,x=.int .u64 a∧z=.int .u64 b∧Hid (wr=w)∧Hid (DigInv V d h l a b)) (fun x _ _=>(intOf x).toNat)
    case atStart=>exact⟨q2,_,by first|rfl|exact congrArg (Value.int .u64) HQ2.out,rfl,by first|exact Lib.hid rfl|exact Lib.hid trivial,HI2⟩
    case round=>
     clear HI2 HQ2
     obtain⟨a0,b0,rfl,rfl,hwr,hI0⟩:=hrel
     have hwq:=hwr.out
     clear hwr
     subst wr
     have i0a:=hI0.out.q0
     have i0b:=hI0.out.q1
     have i0c:=hI0.out.r0
     have i0d:=hI0.out.r1
     by_cases ca0:4294967296≤a0
     ·by_cases cb0:4294967296≤b0+h
      ·have HE0:Hid (DigEnd V d h l (a0-1)):=Lib.hid (dig_break HA2.out hI0.out (.inl ca0) cb0)
       clear hI0
       obtain⟨f0,f1,_,_⟩:=HE0.out
       obtain⟨f2,f3,_,_⟩:=HE1.out
       go_wp2_with fail
       go_ret2
       exact div_fin HN.out HY.out HV.out HE1.out HE0.out y0 HY2.out Y1
      ·have HI:Hid (DigInv V d h l (a0-1) (b0+h)):=Lib.hid (dig_step HA2.out hI0.out (.inl ca0) (by omega))
       clear hI0
       go_wp2_with fail
       go_roundw
       case rel=>exact⟨_,_,rfl,rfl,by first|exact Lib.hid rfl|exact Lib.hid trivial,HI⟩
       case measure=>simp[intOf]<;>omega
     ·have p0a:0≤a0*l:=Int.mul_nonneg i0a l0
      have p0b:a0*l≤4294967295*l:=Int.mul_le_mul_of_nonneg_right (by omega) l0
      by_cases cc0:4294967296*b0+d<a0*l
      ·have cd0:1≤a0:=(dig_less HA2.out hI0.out (.inr (by omega))).1
       by_cases cb0:4294967296≤b0+h
       ·have HE0:Hid (DigEnd V d h l (a0-1)):=Lib.hid (dig_break HA2.out hI0.out (.inr (by omega)) cb0)
        clear hI0
        obtain⟨f0,f1,_,_⟩:=HE0.out
        obtain⟨f2,f3,_,_⟩:=HE1.out
        go_wp2_with fail
        go_ret2
        exact div_fin HN.out HY.out HV.out HE1.out HE0.out y0 HY2.out Y1
       ·have HI:Hid (DigInv V d h l (a0-1) (b0+h)):=Lib.hid (dig_step HA2.out hI0.out (.inr (by omega)) (by omega))
        clear hI0
        go_wp2_with fail
        go_roundw
        case rel=>exact⟨_,_,rfl,rfl,by first|exact Lib.hid rfl|exact Lib.hid trivial,HI⟩
        case measure=>simp[intOf]<;>omega
      ·have HE0:Hid (DigEnd V d h l a0):=Lib.hid (dig_exit HA2.out hI0.out (by omega))
       clear hI0
       obtain⟨f0,f1,_,_⟩:=HE0.out
       obtain⟨f2,f3,_,_⟩:=HE1.out
       go_wp2_with fail
       go_ret2
       exact div_fin HN.out HY.out HV.out HE1.out HE0.out y0 HY2.out Y1
theorem div64_zero(w:World)(lo y:Int)(lo0:0≤lo)(lo1:lo<18446744073709551616)(y0:0<y)(y1:y<18446744073709551616):
 Calls Tryz.prog 285 #[.int .u64 0,.int .u64 lo,.int .u64 y] w (DrewPost w (.tuple #[.int .u64 (lo/y),.int .u64 (lo%y)])):=by
 have e1:0≤lo/y:=Int.ediv_nonneg lo0 (by omega)
 have e2:lo/y≤lo:=Int.ediv_le_self _ lo0
 have e3:0≤lo%y:=Int.emod_nonneg _ (by omega)
 have e4:lo%y<y:=Int.emod_lt_of_pos _ y0
 have hq:IntKind.u64.wrap (lo.tdiv y)=lo/y:=by rw[Int.tdiv_eq_ediv_of_nonneg lo0];exact wrapU e1 (by omega)
 have hm:lo.tmod y=lo%y:=Int.tmod_eq_emod_of_nonneg lo0
 have hm2:IntKind.u64.wrap (lo%y)=lo%y:=wrapU e3 (by omega)
 have hy:(y==0)=false:=by simpa using show y≠0 by omega
 go_enter Tryz.func285,Tryz.ntmps285
 go_wp2_with fail
 go_region
 all_goals go_wp2_with fail
 all_goals go_ret2
 all_goals exact⟨rfl,by first|exact Drw.refl _|exact Drw.step _ _|exact(Drw.step _ _).trans (Drw.step _ _)⟩
theorem div64_any(w:World)(hi lo y:Int)(hi0:0≤hi)(hy:hi<y)(lo0:0≤lo)(lo1:lo<18446744073709551616)(y1:y<18446744073709551616):
 Calls Tryz.prog 285 #[.int .u64 hi,.int .u64 lo,.int .u64 y] w (DrewPost w (.tuple #[.int .u64 ((hi*18446744073709551616+lo)/y),.int .u64 ((hi*18446744073709551616+lo)%y)])):=by
 by_cases h:hi=0
 ·subst h
  rw[Int.zero_mul,Int.zero_add]
  exact div64_zero w lo y lo0 lo1 (by omega) y1
 ·exact div64_big w hi lo y (by omega) hy lo0 lo1 y1
theorem nv_drop_one(zs:List Int)(i:Nat):nv (zs.drop i)=gd zs i+pw*nv (zs.drop (i+1)):=by
 induction i generalizing zs with
 |zero=>cases zs<;>simp[nv,gd]
 |succ i ih=>
  cases zs with
  |nil=>simp[nv,gd]
  |cons z zs=>
   have:=ih zs
   simpa [gd]using this
structure DivInv(g:Nat)(za:List Int)(f:Int)(m:Nat)(w:World)(r:Int)(L:List Int):Prop where
 len:L.length=za.length
 wd:Wd L
 val:nv (L.drop m)*f+r=nv (za.drop m)
 low: ∀j,j<m→gd L j=0
 blk:Blk w g L
theorem divw_start{g:Nat}{za:List Int}{f:Int}{w:World}(h:Blk w g (List.replicate za.length 0)):DivInv g za f za.length w 0 (List.replicate za.length 0):=
 ⟨List.length_replicate,Wd_replicate _,by rw[List.drop_eq_nil_of_le (by simp),List.drop_eq_nil_of_le (Nat.le_refl _)];simp[nv],fun j _=>gd_zeros _ j,h⟩
theorem divw_step{g:Nat}{za:List Int}{f r:Int}{m:Nat}{w w2:World}{L:List Int}(hm:m<za.length)(h:DivInv g za f (m+1) w r L)(f0:0<f)(q0:0≤(r*18446744073709551616+gd za m)/f)(q1:(r*18446744073709551616+gd za m)/f<18446744073709551616)
 (hB:Blk w2 g (L.set m ((r*18446744073709551616+gd za m)/f))):DivInv g za f m w2 ((r*18446744073709551616+gd za m)%f) (L.set m ((r*18446744073709551616+gd za m)/f)):=by
 refine⟨by simp[h.len],Wd_set h.wd ⟨q0,q1⟩,?_,fun j hj=>by rw[gd_set_ne (by omega)];exact h.low j (by omega),hB⟩
 have hd:(L.set m ((r*18446744073709551616+gd za m)/f)).drop (m+1)=L.drop (m+1):=by
  rw[List.drop_set_of_lt (by omega)]
 have hv:=h.val
 rw[nv_drop_one,nv_drop_one za m,hd,gd_set_eq (by rw[h.len];exact hm),←hv,show pw=18446744073709551616 from rfl]
 have e:=Int.mul_ediv_add_emod (r*18446744073709551616+gd za m) f
 generalize (r*18446744073709551616+gd za m)/f=q at*
 generalize (r*18446744073709551616+gd za m)%f=s at*
 have:s=r*18446744073709551616+gd za m-f*q:=by omega
 rw[this];grind
def DivwPost(w:World)(x f:Int)(e:Ending)(w':World):Prop:= ∃v,e=.returned (.tuple #[v,.int .u64 (x%f)])∧Nt w' v (x/f)∧Below w.heap.size w w'
theorem divideByWord_any(w:World)(b off cap:Nat)(za:List Int)(x f:Int)(ha:Ns w b off cap za x)(hx:x<big)(f0:0<f)(f1:f<18446744073709551616):
 Calls Tryz.prog 252 #[.slice (some ⟨b,off,none⟩) za.length cap,.int .u64 f] w (DivwPost w x f):=by
 have hl:=ha.len hx
 have hcap:=ha.cap
 have hpos:=ha.pos
 have HLT:=Lib.hid ha.lt
 have H:=Lib.hid ha
 clear ha hx
 obtain⟨l,hl'⟩: ∃l,za.length=l:=⟨_,rfl⟩
 have HL:=Lib.hid hl'
 rw[hl']at hl hcap hpos⊢
 clear hl'
 obtain⟨i0,hi,hz0,hz1,hz2⟩:=info_parts infoU
 go_enter Tryz.func252,Tryz.ntmps252
 go_wp2_with (at_make;refine wpList_make_full w rfl (.tmp 10) (.tmp 10) 49 rfl w.heap.size 24 i0 (.int .u64 0) 1 Tryz.underlying49 hi hz0 hz1 .i64 .i64 _ _ l rfl rfl (by omega) (by omega) (by rw[hz2];omega) (by unfold maxLen;omega) (Nat.le_refl _) ?_;intro w1 hown hgrow;have hblk:=Lib.hid (blk_made hown);have hbel:=Lib.hid (below_made hgrow);clear hown hgrow hi hz0 hz1 hz2)
 generalize hg:w.heap.size=g at hblk hbel
 have HG:=Lib.hid hg
 clear hg
 go_loopw [7,8] (fun u v wr=> ∃(m:Nat) (r:Int),m≤l∧0≤r∧r<f∧u=.int .u64 r∧v=.int .i64 ((m:Int)-1)∧Hid (Below g w wr∧ ∃L,DivInv g za f m wr r L)) (fun _ v _=>(intOf v+1).toNat)
 case atStart=>exact⟨l,0,Nat.le_refl _,by omega,f0,rfl,rfl,Lib.hid ⟨hbel.out,_,by have h:=divw_start (za:=za) (f:=f) (w:=w1) (g:=g) (by rw[HL.out];exact hblk.out);rw[HL.out]at h;exact h⟩⟩
 case round=>
  obtain⟨m,r,hml,r0,r1,rfl,rfl,hr⟩:=hrel
  rcases m with _|m
  ·obtain⟨hbw,L,hL⟩:=hr.out
   have HH:=Lib.hid hL
   have HBw:=Lib.hid hbw
   clear hr hL hbw
   have hcut:=cut_any g 0 l L wr (by rw[HH.out.len,HL.out];omega) (by rw[HH.out.len,HL.out];exact Nat.le_refl _) HH.out.blk.row
   rw[HH.out.len,HL.out]at hcut
   have HC:=Lib.hid hcut
   clear hcut
   rw[show(((0:Nat):Int)-1)= -1 from rfl]
   go_wp2_with fail
   refine HC.out.mono ?_
   rintro e w' ⟨rfl,m',hm1,hm2,hm3,rfl⟩
   go_wp2_with fail
   go_ret2
   have hv:=HH.out.val
   rw[List.drop_zero,List.drop_zero,H.out.val]at hv
   have hq:x/f=nv L:=by
    rw[←hv,Int.add_comm,Int.add_mul_ediv_right _ _ (by omega),Int.ediv_eq_zero_of_lt r0 r1,Int.zero_add]
   have hm:x%f=r:=by
    rw[←hv,Int.add_comm,Int.add_mul_emod_self_right,Int.emod_eq_of_lt r0 r1]
   refine⟨cutVal ⟨g,0,none⟩ l m',by rw[hm];rfl,?_,by rw[HG.out];exact HBw.out⟩
   rw[hq]
   exact nt_cut HH.out.blk.row HH.out.blk.lt HH.out.blk.ty HH.out.wd (by rw[HH.out.len,HL.out];exact Nat.le_refl _) m' hm1 hm2 hm3
  ·obtain⟨hbw,L,hL⟩:=hr.out
   have cA:=(hbw.cell (p:=⟨b,off+m,none⟩) (by have:=HLT.out;have:=HG.out;simp;omega)).trans (H.out.row m (by rw[HL.out];omega))
   have HI:=Lib.hid hL
   have HBw:=Lib.hid hbw
   obtain⟨a0,a1⟩:=gd_bounds H.out.wd m
   have HC:=Lib.hid (fun wx=>div64_any wx r (gd za m) f r0 r1 a0 a1 f1)
   have q0:0≤(r*18446744073709551616+gd za m)/f:=Int.ediv_nonneg (by omega) (by omega)
   have q1:(r*18446744073709551616+gd za m)/f<18446744073709551616:=by
    refine Int.ediv_lt_of_lt_mul f0 ?_
    have:=Int.mul_le_mul_of_nonneg_left (show r+1≤f by omega) (show(0:Int)≤18446744073709551616 by decide)
    omega
   have e0:0≤(r*18446744073709551616+gd za m)%f:=Int.emod_nonneg _ (by omega)
   have e1:(r*18446744073709551616+gd za m)%f<f:=Int.emod_lt_of_pos _ f0
   have HQ:=Lib.hid (And.intro q0 (And.intro q1 (And.intro e0 e1)))
   have hcast:(((m+1:Nat):Int)-1)=m:=by omega
   rw[hcast]
   clear hr hL hbw a0 a1 q0 q1 e0 e1 hcast
   go_wp2_with (go_at_call 285;refine(HC.out _).mono ?_;rintro e w' ⟨rfl,hd⟩;have cO:=(HI.out.blk.drw hd).cell m (by rw[HI.out.len,HL.out];omega);have fO:=(HI.out.blk.drw hd).frozen m;have HD:=Lib.hid hd;clear hd)
   go_roundw
   case rel=>exact⟨m,_,by omega,HQ.out.2.2.1,HQ.out.2.2.2,rfl,by go_num,Lib.hid ⟨below_set (HBw.out.trans (HD.out.below _)) (Nat.le_refl _) _ _,_,divw_step (by rw[HL.out];omega) HI.out f0 HQ.out.1 HQ.out.2.1 ((HI.out.blk.drw HD.out).set _ _)⟩⟩
   case measure=>simp[intOf]<;>omega
structure TakeInv(g o:Nat)(M zb:List Int)(f:Int)(i:Nat)(w:World)(c:Int)(M':List Int):Prop where
 len:M'.length=M.length
 wd:Wd M'
 val:nv M'=nv M-pw^o*(nv (zb.take i)*f)+pw^(o+i)*c
 same: ∀j,j<o∨o+i≤j→gd M' j=gd M j
 blk:Blk w g M'
theorem take_start{g o:Nat}{M zb:List Int}{f:Int}{w:World}(h:Blk w g M)(hM:Wd M):TakeInv g o M zb f 0 w 0 M:=
 ⟨rfl,hM,by simp[nv],fun j _=>rfl,h⟩
theorem take_step{g o:Nat}{M zb M':List Int}{f c hi lo:Int}{i:Nat}{w w2:World}(hn:o+i<M.length)(h:TakeInv g o M zb f i w c M')(hp:gd zb i*f=hi*18446744073709551616+lo)
 (hB:Blk w2 g (M'.set (o+i) ((gd M' (o+i)-(lo+c)%18446744073709551616)%18446744073709551616))):
 TakeInv g o M zb f (i+1) w2 (hi+(lo+c)/18446744073709551616+bor (gd M' (o+i)) ((lo+c)%18446744073709551616)) (M'.set (o+i) ((gd M' (o+i)-(lo+c)%18446744073709551616)%18446744073709551616)):=by
 obtain⟨a0,a1⟩:=gd_bounds h.wd (o+i)
 refine⟨by simp[h.len],Wd_set h.wd ⟨Int.emod_nonneg _ (by omega),Int.emod_lt_of_pos _ (by omega)⟩,?_,?_,hB⟩
 ·rw[nv_set _ _ _ (by rw[h.len];exact hn),h.val,nv_take_all,show o+(i+1)=o+i+1 by omega,Int.pow_succ,Int.pow_add,show pw=18446744073709551616 from rfl,Int.add_mul,Int.mul_assoc (18446744073709551616^i) (gd zb i) f,hp]
  have e1:=Int.mul_ediv_add_emod (lo+c) 18446744073709551616
  have r0:=Int.emod_nonneg (lo+c) (show(18446744073709551616:Int)≠0 by decide)
  have r1:=Int.emod_lt_of_pos (lo+c) (show(0:Int)<18446744073709551616 by decide)
  generalize (lo+c)/18446744073709551616=q at*
  generalize (lo+c)%18446744073709551616=r at*
  have e2:=bor_eq (gd M' (o+i)) r a0 a1 r0 (by omega)
  generalize bor (gd M' (o+i)) r=b at*
  generalize (gd M' (o+i)-r)%18446744073709551616=r2 at*
  have h1:r=lo+c-18446744073709551616*q:=by omega
  have h2:r2=gd M' (o+i)-r+18446744073709551616*b:=by omega
  rw[h2,h1];grind
 ·intro j hj
  rw[gd_set_ne (by omega)]
  exact h.same j (by omega)
theorem take_step0{g o:Nat}{M zb M':List Int}{f c:Int}{i:Nat}{w w2:World}(hn:o+i<M.length)(h:TakeInv g o M zb f i w c M')(hz:gd zb i=0)(c0:0≤c)(c1:c<18446744073709551616)
 (hB:Blk w2 g (M'.set (o+i) ((gd M' (o+i)-c)%18446744073709551616))):
 TakeInv g o M zb f (i+1) w2 (bor (gd M' (o+i)) c) (M'.set (o+i) ((gd M' (o+i)-c)%18446744073709551616)):=by
 have h2:=take_step (hi:=0) (lo:=0) (w2:=w2) hn h (by rw[hz];omega) (by rw[show(0+c)%18446744073709551616=c by omega];exact hB)
 rw[show(0+c)%18446744073709551616=c by omega,show(0+c)/18446744073709551616=0 by omega,Int.add_zero,Int.zero_add]at h2
 exact h2
def TakePost(w:World)(g o n:Nat)(M:List Int)(y:Int)(e:Ending)(w':World):Prop:=
 ∃(c:Int) (M':List Int),0≤c∧c<18446744073709551616∧e=.returned (.int .u64 c)∧Only g w w'∧M'.length=M.length∧Wd M'∧nv M'=nv M-pw^o*y+pw^(o+n)*c∧(∀j,j<o∨o+n≤j→gd M' j=gd M j)∧Blk w' g M'
theorem takeProduct_any(w:World)(g o n cap:Nat)(M:List Int)(hB:Blk w g M)(hM:Wd M)(b off cap2:Nat)(zb:List Int)(hon:o+n≤M.length)(hMl:M.length≤10000)(hl:zb.length≤n)(hcap:zb.length≤cap2)
 (hwd:Wd zb) (hr:Row w b off zb) (hne:b≠g) (f:Int) (f0:0≤f) (f1:f<18446744073709551616):
 Calls Tryz.prog 287 #[.slice (some ⟨g,o,none⟩) n cap,.slice (some ⟨b,off,none⟩) zb.length cap2,.int .u64 f] w (TakePost w g o n M (nv zb*f)):=by
 have HM:=Lib.hid (And.intro hB hM)
 have HW:=Lib.hid hwd
 have HR:=Lib.hid hr
 clear hB hM hwd hr
 obtain⟨m,hm⟩: ∃m,M.length=m:=⟨_,rfl⟩
 have Hm:=Lib.hid hm
 rw[hm]at hon hMl
 clear hm
 obtain⟨l,hl'⟩: ∃l,zb.length=l:=⟨_,rfl⟩
 have HL:=Lib.hid hl'
 rw[hl']at hl hcap⊢
 clear hl'
 have HF: ∀(k:Nat) (c:Int) (wr:World),l≤k→k≤n→0≤c→c<18446744073709551616→(c=0∨k=n)→Hid (Only g w wr∧ ∃M',TakeInv g o M zb f k wr c M')→TakePost w g o n M (nv zb*f) (.returned (.int .u64 c)) wr:=by
  intro k c wr h1 h2 h3 h4 h5 h6
  obtain⟨h7,M',h8⟩:=h6.out
  refine⟨c,M',h3,h4,rfl,h7,h8.len,h8.wd,?_,fun j hj=>h8.same j (by omega),h8.blk⟩
  rw[h8.val,List.take_of_length_le (by rw[HL.out];exact h1)]
  rcases h5 with rfl|rfl
  ·simp
  ·rfl
 have HFF:=Lib.hid HF
 clear HF
 go_enter Tryz.func287,Tryz.ntmps287
 go_wp2_with fail
 go_loopw [7,16] (fun u v wr=> ∃(i:Nat) (c:Int),i≤l∧0≤c∧c<18446744073709551616∧u=.int .u64 c∧v=.int .i64 i∧Hid (Only g w wr∧ ∃M',TakeInv g o M zb f i wr c M')) (fun _ v _=>l-(intOf v).toNat)
 case atStart=>exact⟨0,0,Nat.zero_le _,by omega,by omega,rfl,rfl,Lib.hid ⟨Only.refl _ _,_,take_start HM.out.1 HM.out.2⟩⟩
 case round=>
  obtain⟨i,c,him,c0,c1,rfl,rfl,hr⟩:=hrel
  by_cases hlt:i<l
  ·obtain⟨hon',M',hI⟩:=hr.out
   have cA:=hon'.cell (HR.out i (by rw[HL.out];omega)) hne
   have cO:=hI.blk.cell (o+i) (by rw[hI.len,Hm.out];omega)
   have fO:=hI.blk.frozen (o+i)
   have HI:=Lib.hid hI
   have HO:=Lib.hid hon'
   obtain⟨a0,a1⟩:=gd_bounds hI.wd (o+i)
   obtain⟨b0,b1⟩:=gd_bounds HW.out i
   obtain⟨hi,lo,p0,p1,p2,p3,p4,p5,hc⟩:=mul64_halves (gd zb i) f b0 b1 f0 f1
   have HC:=Lib.hid hc
   have HP:=Lib.hid p4
   have q0:0≤(lo+c)%18446744073709551616:=Int.emod_nonneg _ (by decide)
   have q1:(lo+c)%18446744073709551616<18446744073709551616:=Int.emod_lt_of_pos _ (by decide)
   have HA:=Lib.hid (add64_0 lo c p2 c0)
   have HA2:=Lib.hid (sub64_0 (gd M' (o+i)) ((lo+c)%18446744073709551616) a0 q0 q1)
   have hb01:=bor_01 (gd M' (o+i)) ((lo+c)%18446744073709551616)
   have hw1:hi+(lo+c)/18446744073709551616<18446744073709551616:=by omega
   have hw2:hi+(lo+c)/18446744073709551616+bor (gd M' (o+i)) ((lo+c)%18446744073709551616)<18446744073709551616:=by
    by_cases hz:(lo+c)%18446744073709551616=0
    ·have:bor (gd M' (o+i)) ((lo+c)%18446744073709551616)=0:=by unfold bor;rw[hz,if_neg (by omega)]
     omega
    ·omega
   have HN:Hid (0≤hi+(lo+c)/18446744073709551616+bor (gd M' (o+i)) ((lo+c)%18446744073709551616)∧hi+(lo+c)/18446744073709551616+bor (gd M' (o+i)) ((lo+c)%18446744073709551616)<18446744073709551616):=Lib.hid ⟨by omega,hw2⟩
   have HW1:Hid (IntKind.u64.wrap (hi+(lo+c)/18446744073709551616)=hi+(lo+c)/18446744073709551616):=Lib.hid (by rw[IntKind.wrap_u64];omega)
   have HW2:Hid (IntKind.u64.wrap (hi+(lo+c)/18446744073709551616+bor (gd M' (o+i)) ((lo+c)%18446744073709551616))=hi+(lo+c)/18446744073709551616+bor (gd M' (o+i)) ((lo+c)%18446744073709551616)):=Lib.hid (by rw[IntKind.wrap_u64];omega)
   clear hr hI hon' hc p0 p1 p2 p3 p4 p5 q0 q1 hw1 hw2 a0 a1 b0 b1 hb01
   have HE:Hid ((gd M' (o+i)-(lo+c)%18446744073709551616)%18446744073709551616=(gd M' (o+i)-(lo+c))%18446744073709551616):=Lib.hid (by omega)
   go_wp2_with (first|(go_at_call 245;refine(HC.out _).mono ?_;rintro e w' ⟨rfl,rfl⟩)|simp only[HA.out]|simp only[HA2.out])
   go_roundw
   case rel=>exact⟨i+1,_,by omega,HN.out.1,HN.out.2,by rw[HW1.out,HW2.out],by go_num,Lib.hid ⟨HO.out.set _ _,_,take_step (by rw[Hm.out];omega) HI.out HP.out (by rw[HE.out];exact HI.out.blk.set _ _)⟩⟩
   case measure=>simp[intOf]<;>omega
  ·have hie:i=l:=by omega
   subst hie
   clear hlt him
   go_wp2_with fail
   go_loopw [7,13] (fun u v wr=> ∃(k:Nat) (c:Int),i≤k∧k≤n∧0≤c∧c<18446744073709551616∧u=.int .u64 c∧v=.int .i64 k∧Hid (Only g w wr∧ ∃M',TakeInv g o M zb f k wr c M')) (fun _ v _=>n-(intOf v).toNat)
   case atStart=>exact⟨i,c,Nat.le_refl _,hl,c0,c1,rfl,rfl,hr⟩
   case round=>
    clear hr c0 c1
    obtain⟨k,c,hik,hkn,c0,c1,rfl,rfl,hr⟩:=hrel
    by_cases hc0:c=0
    ·subst hc0
     go_wp2_with fail
     go_ret
     exact HFF.out k 0 _ hik hkn (by omega) (by omega) (.inl rfl) hr
    ·by_cases hlt:k<n
     ·obtain⟨hon',M',hI⟩:=hr.out
      have cO:=hI.blk.cell (o+k) (by rw[hI.len,Hm.out];omega)
      have fO:=hI.blk.frozen (o+k)
      have HI:=Lib.hid hI
      have HO:=Lib.hid hon'
      obtain⟨a0,a1⟩:=gd_bounds hI.wd (o+k)
      have HA2:=Lib.hid (sub64_0 (gd M' (o+k)) c a0 c0 c1)
      have hb01:=bor_01 (gd M' (o+k)) c
      clear hr hI hon' a0 a1
      go_wp2_with (simp only[HA2.out])
      go_roundw
      case rel=>exact⟨k+1,_,by omega,by omega,hb01.1,by omega,rfl,by go_num,Lib.hid ⟨HO.out.set _ _,_,take_step0 (by rw[Hm.out];omega) HI.out (gd_over (by rw[HL.out];omega)) c0 c1 (HI.out.blk.set _ _)⟩⟩
      case measure=>simp[intOf]<;>omega
     ·go_wp2_with fail
      go_ret
      exact HFF.out k c _ hik hkn c0 c1 (.inr (by omega)) hr
structure GuessArgs(a2 a1 a0 b1 b0:Int):Prop where
 x0:0≤a2
 x1:0≤a1
 x2:a1<18446744073709551616
 x3:0≤a0
 x4:a0<18446744073709551616
 y0:9223372036854775808≤b1
 y1:b1<18446744073709551616
 y2:0≤b0
 y3:b0<18446744073709551616
 le:a2*18446744073709551616+a1≤b1*18446744073709551616+b0
def GuessUp(a2 a1 a0 b1 b0 g:Int):Prop:=(a2*18446744073709551616+a1)*18446744073709551616+a0<(g+1)*(b1*18446744073709551616+b0)∨g=18446744073709551615
def GuessEnd(a2 a1 a0 b1 b0 g:Int):Prop:=0≤g∧g<18446744073709551616∧g*(b1*18446744073709551616+b0)≤(a2*18446744073709551616+a1)*18446744073709551616+a0∧GuessUp a2 a1 a0 b1 b0 g
structure GuessInv(a2 a1 a0 b1 b0 g r hi lo:Int):Prop where
 eqr:g*b1+r=a2*18446744073709551616+a1
 eqm:g*b0=hi*18446744073709551616+lo
 g0:0≤g
 g1:g<18446744073709551616
 r0:0≤r
 r1:r<18446744073709551616
 h0:0≤hi
 h1:hi<18446744073709551616
 l0:0≤lo
 l1:lo<18446744073709551616
 up:GuessUp a2 a1 a0 b1 b0 g
theorem guess_quot{a2 a1 a0 b1 b0 g r:Int}(A:GuessArgs a2 a1 a0 b1 b0)(h:g*b1+r=a2*18446744073709551616+a1)(hr:r<b1)(g0:0≤g):GuessUp a2 a1 a0 b1 b0 g:=by
 left
 have e1:(g+1)*(b1*18446744073709551616+b0)=(g*b1+b1)*18446744073709551616+(g+1)*b0:=by grind
 have e2:0≤(g+1)*b0:=Int.mul_nonneg (by omega) A.y2
 have:=A.x4
 rw[e1];omega
theorem guess_less{a2 a1 a0 b1 b0 g r hi lo:Int}(A:GuessArgs a2 a1 a0 b1 b0)(I:GuessInv a2 a1 a0 b1 b0 g r hi lo)(hc:r<hi∨hi=r∧a0<lo):1≤g∧GuessUp a2 a1 a0 b1 b0 (g-1):=by
 obtain⟨eqr,eqm,g0,g1,r0,r1,h0,h1,l0,l1,up⟩:=I
 have x3:=A.x3
 have x4:=A.x4
 have hm:r*18446744073709551616+a0<g*b0:=by rw[eqm];omega
 constructor
 ·apply Classical.byContradiction
  intro hq
  have:g=0:=by omega
  rw[this,Int.zero_mul]at hm
  omega
 ·left
  rw[show g-1+1=g by omega]
  have e1:g*(b1*18446744073709551616+b0)=g*b1*18446744073709551616+g*b0:=by grind
  rw[e1];omega
theorem guess_break{a2 a1 a0 b1 b0 g r hi lo:Int}(A:GuessArgs a2 a1 a0 b1 b0)(I:GuessInv a2 a1 a0 b1 b0 g r hi lo)(hc:r<hi∨hi=r∧a0<lo)(hr:18446744073709551616≤r+b1):GuessEnd a2 a1 a0 b1 b0 (g-1):=by
 obtain⟨k0,k1⟩:=guess_less A I hc
 obtain⟨eqr,eqm,g0,g1,r0,r1,h0,h1,l0,l1,up⟩:=I
 refine⟨by omega,by omega,?_,k1⟩
 have e1:(g-1)*(b1*18446744073709551616+b0)=g*b1*18446744073709551616-b1*18446744073709551616+(g-1)*b0:=by grind
 have e2:(g-1)*b0≤18446744073709551615*b0:=Int.mul_le_mul_of_nonneg_right (by omega) A.y2
 have:=A.y3
 have:=A.x3
 rw[e1];omega
theorem guess_step{a2 a1 a0 b1 b0 g r hi lo:Int}(A:GuessArgs a2 a1 a0 b1 b0)(I:GuessInv a2 a1 a0 b1 b0 g r hi lo)(hc:r<hi∨hi=r∧a0<lo)(hr:r+b1<18446744073709551616):
 0≤hi-bor lo b0∧GuessInv a2 a1 a0 b1 b0 (g-1) (r+b1) (hi-bor lo b0) ((lo-b0)%18446744073709551616):=by
 obtain⟨k0,k1⟩:=guess_less A I hc
 obtain⟨eqr,eqm,g0,g1,r0,r1,h0,h1,l0,l1,up⟩:=I
 have y0:=A.y0
 have e:=bor_eq lo b0 l0 l1 A.y2 (by have:=A.y3;omega)
 have b01:=bor_01 lo b0
 have m0:0≤(g-1)*b0:=Int.mul_nonneg (by omega) A.y2
 have m1:(g-1)*b0=g*b0-b0:=by rw[Int.sub_mul,Int.one_mul]
 have n0:=Int.emod_nonneg (lo-b0) (show(18446744073709551616:Int)≠0 by decide)
 have n1:=Int.emod_lt_of_pos (lo-b0) (show(0:Int)<18446744073709551616 by decide)
 generalize (lo-b0)%18446744073709551616=z at*
 generalize bor lo b0=t at*
 have hh:0≤hi-t:=by omega
 refine⟨hh,by rw[Int.sub_mul,Int.one_mul];omega,by omega,by omega,by omega,by omega,hr,hh,by omega,n0,n1,k1⟩
theorem guess_exit{a2 a1 a0 b1 b0 g r hi lo:Int}(A:GuessArgs a2 a1 a0 b1 b0)(I:GuessInv a2 a1 a0 b1 b0 g r hi lo)(hc: ¬(r<hi∨hi=r∧a0<lo)):GuessEnd a2 a1 a0 b1 b0 g:=by
 have x3:=A.x3
 obtain⟨eqr,eqm,g0,g1,r0,r1,h0,h1,l0,l1,up⟩:=I
 refine⟨g0,g1,?_,up⟩
 have e1:g*(b1*18446744073709551616+b0)=g*b1*18446744073709551616+g*b0:=by grind
 have hle:hi*18446744073709551616+lo≤r*18446744073709551616+a0∨a0<0:=by omega
 rw[e1,eqm,show g*b1=a2*18446744073709551616+a1-r by omega]
 generalize a2*18446744073709551616+a1=t at*
 omega
theorem guess_ones{a2 a1 a0 b1 b0:Int}(A:GuessArgs a2 a1 a0 b1 b0)(h:b1≤a2)(hr:18446744073709551616≤a1+b1):GuessEnd a2 a1 a0 b1 b0 18446744073709551615:=by
 obtain⟨x0,x1,x2,x3,x4,y0,y1,y2,y3,le⟩:=A
 refine⟨by omega,by omega,by omega,.inr rfl⟩
theorem guessWord_any(w:World){a2 a1 a0 b1 b0:Int}(A:GuessArgs a2 a1 a0 b1 b0):
 Calls Tryz.prog 286 #[.int .u64 a2,.int .u64 a1,.int .u64 a0,.int .u64 b1,.int .u64 b0] w fun e w'=> ∃g,e=.returned (.int .u64 g)∧GuessEnd a2 a1 a0 b1 b0 g∧Drw w w':=by
 have HA:=Lib.hid A
 obtain⟨x0,x1,x2,x3,x4,y0,y1,y2,y3,le⟩:=A
 by_cases hlt:a2<b1
 ·obtain⟨g,hg⟩: ∃g,(a2*18446744073709551616+a1)/b1=g:=⟨_,rfl⟩
  obtain⟨r,hr⟩: ∃r,(a2*18446744073709551616+a1)%b1=r:=⟨_,rfl⟩
  have HC:=Lib.hid (fun wx=>div64_any wx a2 a1 b1 x0 hlt x1 x2 y1)
  rw[hg,hr]at HC
  have e:=Int.mul_ediv_add_emod (a2*18446744073709551616+a1) b1
  have r0:=Int.emod_nonneg (a2*18446744073709551616+a1) (show b1≠0 by omega)
  have r1:=Int.emod_lt_of_pos (a2*18446744073709551616+a1) (show 0<b1 by omega)
  have g0:0≤(a2*18446744073709551616+a1)/b1:=Int.ediv_nonneg (by omega) (by omega)
  rw[hg,Int.mul_comm]at e
  rw[hr]at e r0 r1
  rw[hg]at g0
  have g1:g<18446744073709551616:=by
   apply Classical.byContradiction
   intro hc
   have:=Int.mul_le_mul_of_nonneg_right (show 18446744073709551616≤g by omega) (show 0≤b1 by omega)
   omega
  obtain⟨hi,lo,p0,p1,p2,p3,p4,p5,hm⟩:=mul64_halves g b0 g0 g1 y2 y3
  have HM:=Lib.hid hm
  have HI:Hid (GuessInv a2 a1 a0 b1 b0 g r hi lo):=Lib.hid ⟨e,p4,g0,g1,r0,by omega,p0,by omega,p2,p3,guess_quot HA.out e r1 g0⟩
  clear hg hr e hm p4 p5 le
  go_enter Tryz.func286,Tryz.ntmps286
  go_wp2_with (first|(go_at_call 285;refine(HC.out _).mono ?_;rintro en w' ⟨rfl,hd⟩;have HD:=Lib.hid hd;clear hd)|(go_at_call 245;refine(HM.out _).mono ?_;rintro en w2 ⟨rfl,hw2⟩;subst w2))
  clear HC HM hlt p0 p1 p2 p3 r0 r1 g0 g1
  go_loopw [11,12,13,14] (fun u1 u2 u3 u4 wr=> ∃g r hi lo:Int,u1=.int .u64 g∧u2=.int .u64 r∧u3=.int .u64 hi∧u4=.int .u64 lo∧Hid (Drw w wr)∧Hid (GuessInv a2 a1 a0 b1 b0 g r hi lo)) (fun u1 _ _ _ _=>(intOf u1).toNat)
  case atStart=>exact⟨_,_,_,_,rfl,rfl,rfl,rfl,HD,HI⟩
  case round=>
   clear HD HI
   obtain⟨g,r,hi,lo,rfl,rfl,rfl,rfl,hd,hI⟩:=hrel
   have i0:=hI.out.g0
   have i1:=hI.out.g1
   have i2:=hI.out.r0
   have i3:=hI.out.r1
   have i4:=hI.out.h0
   have i5:=hI.out.h1
   by_cases c1:r<hi
   ·have g1:1≤g:=(guess_less HA.out hI.out (.inl c1)).1
    by_cases cb:18446744073709551616≤r+b1
    ·have E:=Lib.hid (guess_break HA.out hI.out (.inl c1) cb)
     have fw:IntKind.u64.wrap (r+b1)=r+b1-18446744073709551616:=by rw[IntKind.wrap_u64];omega
     clear hI
     go_wp2_with fail
     go_ret
     exact⟨_,rfl,E.out,hd.out⟩
    ·have S:=guess_step HA.out hI.out (.inl c1) (by omega)
     have s0:=S.1
     have b01:=bor_01 lo b0
     have HI2:=Lib.hid S.2
     have HS:=Lib.hid (sub64_0 lo b0 hI.out.l0 y2 y3)
     clear hI S
     go_wp2_with (simp only[HS.out])
     go_roundw
     case rel=>exact⟨_,_,_,_,rfl,rfl,rfl,rfl,hd,HI2⟩
     case measure=>simp[intOf]<;>omega
   ·by_cases c2:hi=r
    ·subst hi
     by_cases c3:a0<lo
     ·have g1:1≤g:=(guess_less HA.out hI.out (.inr ⟨rfl,c3⟩)).1
      by_cases cb:18446744073709551616≤r+b1
      ·have E:=Lib.hid (guess_break HA.out hI.out (.inr ⟨rfl,c3⟩) cb)
       have fw:IntKind.u64.wrap (r+b1)=r+b1-18446744073709551616:=by rw[IntKind.wrap_u64];omega
       clear hI
       go_wp2_with fail
       go_ret
       exact⟨_,rfl,E.out,hd.out⟩
      ·have S:=guess_step HA.out hI.out (.inr ⟨rfl,c3⟩) (by omega)
       have s0:=S.1
       have b01:=bor_01 lo b0
       have HI2:=Lib.hid S.2
       have HS:=Lib.hid (sub64_0 lo b0 hI.out.l0 y2 y3)
       clear hI S
       go_wp2_with (simp only[HS.out])
       go_roundw
       case rel=>exact⟨_,_,_,_,rfl,rfl,rfl,rfl,hd,HI2⟩
       case measure=>simp[intOf]<;>omega
     ·have E:=Lib.hid (guess_exit HA.out hI.out (by omega))
      clear hI
      go_wp2_with fail
      go_ret
      exact⟨_,rfl,E.out,hd.out⟩
    ·have E:=Lib.hid (guess_exit HA.out hI.out (by omega))
     clear hI
     go_wp2_with fail
     go_ret
     exact⟨_,rfl,E.out,hd.out⟩
 ·by_cases hc:18446744073709551616≤a1+b1
  ·have E:=Lib.hid (guess_ones HA.out (by omega) hc)
   have fw:IntKind.u64.wrap (a1+b1)=a1+b1-18446744073709551616:=by rw[IntKind.wrap_u64];omega
   go_enter Tryz.func286,Tryz.ntmps286
   go_wp2_with fail
   go_ret
   exact⟨_,rfl,E.out,Drw.refl _⟩
  ·obtain⟨hi,lo,p0,p1,p2,p3,p4,p5,hm⟩:=mul64_halves 18446744073709551615 b0 (by decide) (by decide) y2 y3
   have HM:=Lib.hid hm
   have ha:a2=b1:=by omega
   have HI:Hid (GuessInv a2 a1 a0 b1 b0 18446744073709551615 (a1+b1) hi lo):=Lib.hid ⟨by omega,p4,by omega,by omega,by omega,by omega,p0,by omega,p2,p3,.inr rfl⟩
   have HD:=Lib.hid (Drw.refl w)
   clear hm p4 p5 le ha
   go_enter Tryz.func286,Tryz.ntmps286
   go_wp2_with (go_at_call 245;refine(HM.out _).mono ?_;rintro en w2 ⟨rfl,hw2⟩;subst w2)
   clear HM hlt hc p0 p1 p2 p3
   go_loopw [11,12,13,14] (fun u1 u2 u3 u4 wr=> ∃g r hi lo:Int,u1=.int .u64 g∧u2=.int .u64 r∧u3=.int .u64 hi∧u4=.int .u64 lo∧Hid (Drw w wr)∧Hid (GuessInv a2 a1 a0 b1 b0 g r hi lo)) (fun u1 _ _ _ _=>(intOf u1).toNat)
   case atStart=>exact⟨_,_,_,_,rfl,rfl,rfl,rfl,HD,HI⟩
   case round=>
    clear HD HI
    obtain⟨g,r,hi,lo,rfl,rfl,rfl,rfl,hd,hI⟩:=hrel
    have i0:=hI.out.g0
    have i1:=hI.out.g1
    have i2:=hI.out.r0
    have i3:=hI.out.r1
    have i4:=hI.out.h0
    have i5:=hI.out.h1
    by_cases c1:r<hi
    ·have g1:1≤g:=(guess_less HA.out hI.out (.inl c1)).1
     by_cases cb:18446744073709551616≤r+b1
     ·have E:=Lib.hid (guess_break HA.out hI.out (.inl c1) cb)
      have fw:IntKind.u64.wrap (r+b1)=r+b1-18446744073709551616:=by rw[IntKind.wrap_u64];omega
      clear hI
      go_wp2_with fail
      go_ret
      exact⟨_,rfl,E.out,hd.out⟩
     ·have S:=guess_step HA.out hI.out (.inl c1) (by omega)
      have s0:=S.1
      have b01:=bor_01 lo b0
      have HI2:=Lib.hid S.2
      have HS:=Lib.hid (sub64_0 lo b0 hI.out.l0 y2 y3)
      clear hI S
      go_wp2_with (simp only[HS.out])
      go_roundw
      case rel=>exact⟨_,_,_,_,rfl,rfl,rfl,rfl,hd,HI2⟩
      case measure=>simp[intOf]<;>omega
    ·by_cases c2:hi=r
     ·subst hi
      by_cases c3:a0<lo
      ·have g1:1≤g:=(guess_less HA.out hI.out (.inr ⟨rfl,c3⟩)).1
       by_cases cb:18446744073709551616≤r+b1
       ·have E:=Lib.hid (guess_break HA.out hI.out (.inr ⟨rfl,c3⟩) cb)
        have fw:IntKind.u64.wrap (r+b1)=r+b1-18446744073709551616:=by rw[IntKind.wrap_u64];omega
        clear hI
        go_wp2_with fail
        go_ret
        exact⟨_,rfl,E.out,hd.out⟩
       ·have S:=guess_step HA.out hI.out (.inr ⟨rfl,c3⟩) (by omega)
        have s0:=S.1
        have b01:=bor_01 lo b0
        have HI2:=Lib.hid S.2
        have HS:=Lib.hid (sub64_0 lo b0 hI.out.l0 y2 y3)
        clear hI S
        go_wp2_with (simp only[HS.out])
        go_roundw
        case rel=>exact⟨_,_,_,_,rfl,rfl,rfl,rfl,hd,HI2⟩
        case measure=>simp[intOf]<;>omega
      ·have E:=Lib.hid (guess_exit HA.out hI.out (by omega))
       clear hI
       go_wp2_with fail
       go_ret
       exact⟨_,rfl,E.out,hd.out⟩
     ·have E:=Lib.hid (guess_exit HA.out hI.out (by omega))
      clear hI
      go_wp2_with fail
      go_ret
      exact⟨_,rfl,E.out,hd.out⟩
theorem nv_take_congr{a b:List Int}: ∀i:Nat,(∀j,j<i→gd a j=gd b j)→nv (a.take i)=nv (b.take i)
 |0,_=>by simp
 |i+1,h=>by rw[nv_take_all,nv_take_all,nv_take_congr i (fun j hj=>h j (by omega)),h i (by omega)]
theorem nv_split(zs:List Int)(i:Nat):nv zs=nv (zs.take i)+pw^i*nv (zs.drop i):=by
 by_cases h:i≤zs.length
 ·exact nv_take_drop zs i h
 ·rw[List.take_of_length_le (by omega),List.drop_eq_nil_of_le (by omega)];simp[nv]
theorem gd_drop'(zs:List Int)(i j:Nat):gd (zs.drop i) j=gd zs (i+j):=by
 unfold gd;simp[List.getElem?_drop]
theorem nv_take_lt{zs:List Int}(h:Wd zs)(n:Nat):0≤nv (zs.take n)∧nv (zs.take n)<pw^n:=by
 have h1:=nv_nonneg (Wd_take h n)
 have h2:=nv_lt (Wd_take h n)
 have h3:(zs.take n).length≤n:=by rw[List.length_take];omega
 have h4:=pow_mono h3
 exact⟨h1,by omega⟩
theorem gd_high{zs:List Int}{m n:Nat}(h:Wd zs)(hv:nv (zs.drop m)<pw^n): ∀j,m+n≤j→gd zs j=0:=by
 intro j hj
 have h1:=nv_split (zs.drop m) n
 have h2:=(nv_take_lt (Wd_drop h m) n).1
 have h3:=nv_nonneg (Wd_drop h (m+n))
 rw[List.drop_drop]at h1
 have hp:=ppos n
 have h0:nv (zs.drop (m+n))=0:=by
  apply Classical.byContradiction
  intro hne
  have:=Int.mul_le_mul_of_nonneg_left (show 1≤nv (zs.drop (m+n))by omega) (Int.le_of_lt hp)
  omega
 have h4:=nv_zero (Wd_drop h (m+n)) h0
 have h5:=gd_drop' zs (m+n) (j-(m+n))
 rw[show m+n+(j-(m+n))=j by omega]at h5
 rw[←h5]
 unfold gd
 cases hg:(zs.drop (m+n))[j-(m+n)]? with
 |none=>simp[hg]
 |some z=>simpa [hg]using h4 z (List.mem_of_getElem? hg)
theorem nv_small{zs:List Int}{n:Nat}(h:Wd zs)(hz: ∀j,n≤j→gd zs j=0):nv zs<pw^n:=by
 have h1:=nv_split zs n
 have h2:=(nv_take_lt h n).2
 have h3:nv (zs.drop n)=0:=by
  have: ∀(k:Nat) (m:Nat),(zs.drop m).length=k→n≤m→nv (zs.drop m)=0:=by
   intro k
   induction k with
   |zero=>intro m hm _;rw[List.length_eq_zero_iff.1 hm];rfl
   |succ k ih=>
    intro m hm hn
    rw[nv_drop_one,hz m hn,ih (m+1) (by simp at hm⊢;omega) (by omega)];simp
  exact this _ n rfl (Nat.le_refl _)
 rw[h3]at h1
 simp at h1
 omega
theorem nv_upper{zs:List Int}(h:Wd zs)(k:Nat):pw^k*nv (zs.drop k)≤nv zs∧nv zs<pw^k*(nv (zs.drop k)+1):=by
 have h1:=nv_split zs k
 obtain⟨h2,h3⟩:=nv_take_lt h k
 rw[Int.mul_add,Int.mul_one]
 omega
theorem guess_ok{A3 b10 U Y g P:Int}(P0:0<P)(u0:P*A3≤U)(u1:U<P*(A3+1))(y0:P*b10≤Y)(y1:Y<P*(b10+1))(hb:18446744073709551616≤b10)(g0:0≤g)(g1:g<18446744073709551616)
 (h1:g*b10≤A3) (h2:A3<(g+1)*b10∨g=18446744073709551615) (hU:U<18446744073709551616*Y):U<(g+1)*Y∧g*Y-U<Y:=by
 have hY:P*18446744073709551616≤Y:=by
  have:=Int.mul_le_mul_of_nonneg_left hb (Int.le_of_lt P0)
  omega
 constructor
 ·rcases h2 with h2|h2
  ·have a1:P*(A3+1)≤P*((g+1)*b10):=Int.mul_le_mul_of_nonneg_left (by omega) (Int.le_of_lt P0)
   have a2:(g+1)*(P*b10)≤(g+1)*Y:=Int.mul_le_mul_of_nonneg_left y0 (by omega)
   have a3:P*((g+1)*b10)=(g+1)*(P*b10):=by grind
   omega
  ·rw[h2];omega
 ·have a1:g*Y≤g*(P*(b10+1)):=Int.mul_le_mul_of_nonneg_left (by omega) g0
  have a2:g*(P*(b10+1))=P*(g*b10)+P*g:=by grind
  have a3:P*(g*b10)≤P*A3:=Int.mul_le_mul_of_nonneg_left h1 (Int.le_of_lt P0)
  have a4:P*g<P*18446744073709551616:=Int.mul_lt_mul_of_pos_left g1 P0
  omega
theorem taken{L M:List Int}{i n:Nat}{y c:Int}(hL:Wd L)(hM:Wd M)(hlen:M.length=L.length)(hin:i+n<L.length)(hv:nv M=nv L-pw^i*y+pw^(i+n)*c)(hs: ∀j,j<i∨i+n≤j→gd M j=gd L j)(hz: ∀j,i+n+1≤j→gd L j=0):
 nv ((M.set (i+n) 0).drop i)=nv (L.drop i)-y+pw^n*(c-gd L (i+n))∧0≤nv ((M.set (i+n) 0).drop i)∧nv ((M.set (i+n) 0).drop i)<pw^n∧Wd (M.set (i+n) 0)∧(∀j,j<i→gd (M.set (i+n) 0) j=gd L j)∧(∀j,i+n≤j→gd (M.set (i+n) 0) j=0):=by
 have hwd:Wd (M.set (i+n) 0):=Wd_set hM ⟨Int.le_refl _,pw_pos⟩
 have hlow: ∀j,j<i→gd (M.set (i+n) 0) j=gd L j:=fun j hj=>by rw[gd_set_ne (by omega)];exact hs j (.inl hj)
 have hhigh: ∀j,i+n≤j→gd (M.set (i+n) 0) j=0:=by
  intro j hj
  by_cases h:j=i+n
  ·subst h;exact gd_set_eq (by omega)
  ·rw[gd_set_ne (by omega),hs j (.inr hj)];exact hz j (by omega)
 have e1:=nv_split (M.set (i+n) 0) i
 have e2:=nv_split L i
 rw[nv_set _ _ _ (by omega),hs (i+n) (.inr (Nat.le_refl _)),hv,nv_take_congr i hlow]at e1
 have hp:=ppos i
 have e3:pw^i*nv ((M.set (i+n) 0).drop i)=pw^i*(nv (L.drop i)-y+pw^n*(c-gd L (i+n))):=by
  rw[Int.pow_add]at e1
  have:pw^i*(nv (L.drop i)-y+pw^n*(c-gd L (i+n)))=pw^i*nv (L.drop i)-pw^i*y+pw^i*pw^n*c-pw^i*pw^n*gd L (i+n):=by grind
  rw[this]
  have e4:pw^i*pw^n*(0-gd L (i+n))= -(pw^i*pw^n*gd L (i+n)):=by grind
  rw[e4]at e1
  omega
 refine⟨Int.eq_of_mul_eq_mul_left (Int.ne_of_gt hp) e3,nv_nonneg (Wd_drop hwd i),?_,hwd,hlow,hhigh⟩
 exact nv_small (Wd_drop hwd i) fun j hj=>by rw[gd_drop'];exact hhigh _ (by omega)
structure Divisor(zY:List Int)(n:Nat)(Y:Int):Prop where
 len:zY.length=n
 two:2≤n
 wd:Wd zY
 val:nv zY=Y
 top:9223372036854775808≤gd zY (n-1)
structure LongNum(X Y:Int)(n N m:Nat)(L O:List Int):Prop where
 lenL:L.length=N
 lenO:O.length+n=N
 wdL:Wd L
 wdO:Wd O
 val:nv L+pw^m*(nv (O.drop m)*Y)=X
 rem:nv (L.drop m)<Y
 low: ∀j,j<m→gd O j=0
theorem Divisor.lt{zY:List Int}{n:Nat}{Y:Int}(D:Divisor zY n Y):Y<pw^n:=by
 have:=nv_lt D.wd
 rw[D.len,D.val]at this
 exact this
theorem Divisor.b10{zY:List Int}{n:Nat}{Y:Int}(D:Divisor zY n Y):nv (zY.drop (n-2))=gd zY (n-1)*pw+gd zY (n-2):=by
 have h2:=D.two
 rw[nv_drop_one,nv_drop_one zY (n-2+1),show n-2+1=n-1 by omega,show n-1+1=n by omega,List.drop_eq_nil_of_le (by rw[D.len];exact Nat.le_refl _)]
 simp[nv]
 grind
theorem LongNum.a3{X Y:Int}{n N i:Nat}{L O zY:List Int}(D:Divisor zY n Y)(I:LongNum X Y n N (i+1) L O):
 nv (L.drop (i+(n-2)))=(gd L (i+n)*pw+gd L (i+n-1))*pw+gd L (i+n-2)∧nv (L.drop (i+1+(n-2)))=gd L (i+n)*pw+gd L (i+n-1)∧(∀j,i+n+1≤j→gd L j=0):=by
 have h2:=D.two
 have hY:=D.lt
 have hr:=I.rem
 have hz:=gd_high (n:=n) I.wdL (show nv (L.drop (i+1))<pw^n by omega)
 have hz': ∀j,i+n+1≤j→gd L j=0:=fun j hj=>hz j (by omega)
 have h0:nv (L.drop (i+n+1))=0:=by
  have h1:=nv_small (n:=0) (Wd_drop I.wdL (i+n+1)) fun j _=>by rw[gd_drop'];exact hz' _ (by omega)
  have h3:=nv_nonneg (Wd_drop I.wdL (i+n+1))
  simp at h1
  omega
 have e1:nv (L.drop (i+n))=gd L (i+n):=by rw[nv_drop_one,h0];simp
 have e2:nv (L.drop (i+n-1))=gd L (i+n-1)+pw*gd L (i+n):=by rw[nv_drop_one,show i+n-1+1=i+n by omega,e1]
 have e3:nv (L.drop (i+n-2))=gd L (i+n-2)+pw*(gd L (i+n-1)+pw*gd L (i+n)):=by rw[nv_drop_one,show i+n-2+1=i+n-1 by omega,e2]
 refine⟨?_,?_,hz'⟩
 ·rw[show i+(n-2)=i+n-2 by omega,e3];grind
 ·rw[show i+1+(n-2)=i+n-1 by omega,e2];grind
theorem LongNum.args{X Y:Int}{n N i:Nat}{L O zY:List Int}(D:Divisor zY n Y)(I:LongNum X Y n N (i+1) L O):
 GuessArgs (gd L (i+n)) (gd L (i+n-1)) (gd L (i+n-2)) (gd zY (n-1)) (gd zY (n-2)):=by
 obtain⟨a1,a2,a3⟩:=I.a3 D
 have l1:=Wd_gd I.wdL (i+n)
 have l2:=Wd_gd I.wdL (i+n-1)
 have l3:=Wd_gd I.wdL (i+n-2)
 have y1:=Wd_gd D.wd (n-1)
 have y2:=Wd_gd D.wd (n-2)
 rw[show pw=18446744073709551616 from rfl]at l1 l2 l3 y1 y2
 refine⟨l1.1,l2.1,l2.2,l3.1,l3.2,D.top,y1.2,y2.1,y2.2,?_⟩
 have t1:=nv_upper (Wd_drop I.wdL (i+1)) (n-2)
 rw[List.drop_drop,a2]at t1
 have t2:=nv_upper D.wd (n-2)
 rw[D.b10,D.val]at t2
 have hr:=I.rem
 have hp:=ppos (n-2)
 have h3:pw^(n-2)*(gd L (i+n)*pw+gd L (i+n-1))<pw^(n-2)*(gd zY (n-1)*pw+gd zY (n-2)+1):=by omega
 have h4:=Int.lt_of_mul_lt_mul_left h3 (Int.le_of_lt hp)
 rw[show pw=18446744073709551616 from rfl]at h4
 omega
theorem LongNum.guess{X Y g:Int}{n N i:Nat}{L O zY:List Int}(D:Divisor zY n Y)(I:LongNum X Y n N (i+1) L O)(E:GuessEnd (gd L (i+n)) (gd L (i+n-1)) (gd L (i+n-2)) (gd zY (n-1)) (gd zY (n-2)) g):
 nv (L.drop i)<(g+1)*Y∧g*Y-nv (L.drop i)<Y∧0≤nv (L.drop i):=by
 obtain⟨a1,a2,a3⟩:=I.a3 D
 obtain⟨g0,g1,g2,g3⟩:=E
 have t1:=nv_upper (Wd_drop I.wdL i) (n-2)
 rw[List.drop_drop,a1]at t1
 have t2:=nv_upper D.wd (n-2)
 rw[D.b10,D.val]at t2
 have hU:nv (L.drop i)<18446744073709551616*Y:=by
  rw[nv_drop_one]
  have l1:=Wd_gd I.wdL i
  have hr:=I.rem
  rw[show pw=18446744073709551616 from rfl]at*
  omega
 have hp:=ppos (n-2)
 have y2:=Wd_gd D.wd (n-2)
 have htop:=D.top
 rw[show pw=18446744073709551616 from rfl]at a1 a2 t1 t2 y2 hp
 have:=guess_ok hp t1.1 t1.2 t2.1 t2.2 (by omega) g0 g1 g2 g3 hU
 exact⟨this.1,this.2,nv_nonneg (Wd_drop I.wdL i)⟩
theorem long_val{X Y g:Int}{n N i:Nat}{L O L2:List Int}(I:LongNum X Y n N (i+1) L O)(hi:i<O.length)(hlow: ∀j,j<i→gd L2 j=gd L j)(hv:nv (L2.drop i)=nv (L.drop i)-g*Y):nv L2+pw^i*(nv ((O.set i g).drop i)*Y)=X:=by
 have e1:=nv_split L2 i
 have e2:=nv_split L i
 have hd:(O.set i g).drop (i+1)=O.drop (i+1):=by rw[List.drop_set_of_lt (by omega)]
 have e3:nv ((O.set i g).drop i)=g+pw*nv (O.drop (i+1)):=by rw[nv_drop_one,hd,gd_set_eq hi]
 rw[nv_take_congr i hlow,hv]at e1
 have hV:=I.val
 rw[e2,Int.pow_succ]at hV
 rw[e1,e3,←hV]
 grind
theorem long_right{X Y g c:Int}{n N i:Nat}{L O M zY:List Int}(D:Divisor zY n Y)(I:LongNum X Y n N (i+1) L O)(hi:i<O.length)(E:GuessEnd (gd L (i+n)) (gd L (i+n-1)) (gd L (i+n-2)) (gd zY (n-1)) (gd zY (n-2)) g)
 (hM:Wd M) (hlen:M.length=L.length) (hv:nv M=nv L-pw^i*(Y*g)+pw^(i+n)*c) (hs: ∀j,j<i∨i+n≤j→gd M j=gd L j) (hc:c≤gd L (i+n)):
 LongNum X Y n N i (M.set (i+n) 0) (O.set i g):=by
 obtain⟨a1,a2,a3⟩:=I.a3 D
 obtain⟨u1,u2,u3⟩:=I.guess D E
 obtain⟨t1,t2,t3,t4,t5,t6⟩:=taken I.wdL hM hlen (by have:=I.lenL;have:=I.lenO;omega) hv hs a3
 have hY:=D.lt
 have hp:=ppos n
 obtain⟨g0,g1,_,_⟩:=E
 have e1:(g+1)*Y=g*Y+Y:=by grind
 have e2:Y*g=g*Y:=Int.mul_comm _ _
 rw[e1]at u1
 rw[e2]at t1
 generalize hP:pw^n=P at*
 have hcc:c-gd L (i+n)=0:=by
  apply Classical.byContradiction
  intro hne
  have:=Int.mul_le_mul_of_nonneg_left (show c-gd L (i+n)≤ -1 by omega) (Int.le_of_lt hp)
  omega
 rw[hcc,Int.mul_zero,Int.add_zero]at t1
 exact⟨by rw[List.length_set,hlen,I.lenL],by rw[List.length_set,I.lenO],t4,Wd_set I.wdO ⟨g0,g1⟩,long_val I hi t5 t1,by rw[t1];omega,fun j hj=>by rw[gd_set_ne (by omega)];exact I.low j (by omega)⟩
theorem long_pos{X Y g c:Int}{n N i:Nat}{L O M zY:List Int}(D:Divisor zY n Y)(I:LongNum X Y n N (i+1) L O)(hi:i<O.length)(E:GuessEnd (gd L (i+n)) (gd L (i+n-1)) (gd L (i+n-2)) (gd zY (n-1)) (gd zY (n-2)) g)
 (hM:Wd M) (hlen:M.length=L.length) (hv:nv M=nv L-pw^i*(Y*g)+pw^(i+n)*c) (hs: ∀j,j<i∨i+n≤j→gd M j=gd L j) (hc:gd L (i+n)<c):1≤g:=by
 obtain⟨a1,a2,a3⟩:=I.a3 D
 obtain⟨u1,u2,u3⟩:=I.guess D E
 obtain⟨t1,t2,t3,t4,t5,t6⟩:=taken I.wdL hM hlen (by have:=I.lenL;have:=I.lenO;omega) hv hs a3
 have hp:=ppos n
 obtain⟨g0,g1,_,_⟩:=E
 have e2:Y*g=g*Y:=Int.mul_comm _ _
 rw[e2]at t1
 have hneg:nv (L.drop i)-g*Y<0:=by
  apply Classical.byContradiction
  intro hne
  have:=Int.mul_le_mul_of_nonneg_left (show 1≤c-gd L (i+n)by omega) (Int.le_of_lt hp)
  omega
 apply Classical.byContradiction
 intro hne
 have:g=0:=by omega
 rw[this,Int.zero_mul]at hneg
 omega
theorem long_back{X Y g c c2:Int}{n N i:Nat}{L O M M3 zY:List Int}(D:Divisor zY n Y)(I:LongNum X Y n N (i+1) L O)(hi:i<O.length)(E:GuessEnd (gd L (i+n)) (gd L (i+n-1)) (gd L (i+n-2)) (gd zY (n-1)) (gd zY (n-2)) g)
 (hM:Wd M) (hlen:M.length=L.length) (hv:nv M=nv L-pw^i*(Y*g)+pw^(i+n)*c) (hs: ∀j,j<i∨i+n≤j→gd M j=gd L j) (hc:gd L (i+n)<c)
 (c0:0≤c2) (c1:c2≤1) (hM3:Wd M3) (hlen3:M3.length=(M.set (i+n) 0).length) (hv3:nv M3=nv (M.set (i+n) 0)+pw^i*Y-pw^(i+n)*c2) (hs3: ∀j,j<i∨i+n≤j→gd M3 j=gd (M.set (i+n) 0) j):
 1≤g∧c2=1∧LongNum X Y n N i M3 (O.set i (g-1)):=by
 obtain⟨a1,a2,a3⟩:=I.a3 D
 obtain⟨u1,u2,u3⟩:=I.guess D E
 obtain⟨t1,t2,t3,t4,t5,t6⟩:=taken I.wdL hM hlen (by have:=I.lenL;have:=I.lenO;omega) hv hs a3
 have hY:=D.lt
 have hp:=ppos n
 obtain⟨g0,g1,_,_⟩:=E
 have e1:(g+1)*Y=g*Y+Y:=by grind
 have e2:Y*g=g*Y:=Int.mul_comm _ _
 have e3:(g-1)*Y=g*Y-Y:=by grind
 rw[e1]at u1
 rw[e2]at t1
 have hneg:nv (L.drop i)-g*Y<0:=by
  apply Classical.byContradiction
  intro hne
  have:=Int.mul_le_mul_of_nonneg_left (show 1≤c-gd L (i+n)by omega) (Int.le_of_lt hp)
  omega
 have hg1:1≤g:=by
  apply Classical.byContradiction
  intro hne
  have:g=0:=by omega
  rw[this,Int.zero_mul]at hneg
  omega
 have hcc:c-gd L (i+n)=1:=by
  apply Classical.byContradiction
  intro hne
  have:=Int.mul_le_mul_of_nonneg_left (show 2≤c-gd L (i+n)by omega) (Int.le_of_lt hp)
  omega
 rw[hcc,Int.mul_one]at t1
 obtain⟨s1,s2,s3,s4,s5,s6⟩:=taken t4 hM3 hlen3 (by rw[List.length_set,hlen];have:=I.lenL;have:=I.lenO;omega) (y:= -Y) (c:= -c2) (by rw[hv3];grind) hs3 (fun j hj=>t6 j (by omega))
 have hset:M3.set (i+n) 0=M3:=by
  have hlt:i+n<M3.length:=by rw[hlen3,List.length_set,hlen];have:=I.lenL;have:=I.lenO;omega
  have h0:gd M3 (i+n)=0:=by rw[hs3 _ (.inr (Nat.le_refl _))];exact t6 _ (Nat.le_refl _)
  apply List.ext_getElem (by simp)
  intro k h1 h2
  rw[List.getElem_set]
  split
  ·rename_i hk;subst hk;rw[gd_get hlt]at h0;exact h0.symm
  ·rfl
 rw[hset,t6 _ (Nat.le_refl _)]at s1
 rw[hset]at s2 s3 s4 s5 s6
 rw[t1]at s1
 have hc2:c2=1:=by
  apply Classical.byContradiction
  intro hne
  have:c2=0:=by omega
  subst this
  simp at s1
  omega
 subst hc2
 have s1':nv (M3.drop i)=nv (L.drop i)-(g-1)*Y:=by
  rw[s1,e3];grind
 exact⟨hg1,rfl,by rw[hlen3,List.length_set,hlen,I.lenL],by rw[List.length_set,I.lenO],s4,Wd_set I.wdO ⟨by omega,by rw[show pw=18446744073709551616 from rfl];omega⟩,long_val I hi (fun j hj=>by rw[s5 j hj];exact t5 j hj) s1',by rw[s1',e3];omega,fun j hj=>by rw[gd_set_ne (by omega)];exact I.low j (by omega)⟩
theorem p2split{a b:Nat}(h:a≤b):(2:Int)^b=2^(b-a)*2^a:=by rw[←Int.pow_add];congr 1;omega
theorem LongNum.start{X Y:Int}{n N up:Nat}{L zY:List Int}(D:Divisor zY n Y)(hL:L.length=N)(hw:Wd L)(hv:nv L=X)(hn:n+1≤N)(hup:up≤63)(hX:X<pw^(N-1)*2^up):
 LongNum X Y n N (N-n) L (List.replicate (N-n) 0):=by
 refine⟨hL,by simp;omega,hw,Wd_replicate _,?_,?_,fun j _=>gd_zeros _ j⟩
 ·rw[List.drop_eq_nil_of_le (by simp)];simp[nv,hv]
 ·have t:=(nv_upper hw (N-n)).1
  rw[hv]at t
  have t2:=(nv_upper D.wd (n-1)).1
  have h2:=D.two
  rw[D.val,nv_drop_one,show n-1+1=n by omega,List.drop_eq_nil_of_le (by rw[D.len];exact Nat.le_refl _)]at t2
  simp[nv]at t2
  have e:pw^(N-1)=pw^(N-n)*pw^(n-1):=by rw[←Int.pow_add];congr 1;omega
  have hp:=ppos (N-n)
  have hq:=ppos (n-1)
  have h63:(2:Int)^up≤9223372036854775808:=by
   have:=p2split (show up≤63 by omega)
   have h3:=Int.mul_le_mul_of_nonneg_right (show(1:Int)≤2^(63-up)from p2pos _) (Int.le_of_lt (p2pos up))
   have h4:(2:Int)^63=9223372036854775808:=by decide
   omega
  have a1:pw^(n-1)*2^up≤pw^(n-1)*gd zY (n-1):=Int.mul_le_mul_of_nonneg_left (by have:=D.top;omega) (Int.le_of_lt hq)
  have a2:pw^(N-n)*nv (L.drop (N-n))<pw^(N-n)*(pw^(n-1)*2^up):=by rw[←Int.mul_assoc,←e];omega
  have:=Int.lt_of_mul_lt_mul_left a2 (Int.le_of_lt hp)
  omega
theorem LongNum.stop{X Y x y:Int}{n N up:Nat}{L O:List Int}(I:LongNum X Y n N 0 L O)(hX:X=x*2^up)(hY:Y=y*2^up)(y0:0<y):x/y=nv O∧x%y=nv L/2^up:=by
 have hv:=I.val
 have hr:=I.rem
 rw[List.drop_zero]at hv hr
 simp at hv
 have h0:=nv_nonneg I.wdL
 have hp:=p2pos up
 subst hX hY
 have e2:nv L=(x-nv O*y)*2^up:=by rw[Int.sub_mul];rw[←hv];grind
 rw[e2,Int.mul_ediv_cancel _ (Int.ne_of_gt hp)]
 have h1:0≤x-nv O*y:=by
  apply Classical.byContradiction
  intro hc
  have:=Int.mul_neg_of_neg_of_pos (show x-nv O*y<0 by omega) hp
  omega
 have h2:x-nv O*y<y:=Int.lt_of_mul_lt_mul_right (by rw[←e2];exact hr) (Int.le_of_lt hp)
 have hq:x/y=nv O:=by
  have:x=(x-nv O*y)+nv O*y:=by omega
  rw[this,Int.add_mul_ediv_right _ _ (Int.ne_of_gt y0),Int.ediv_eq_zero_of_lt h1 h2,Int.zero_add]
 refine⟨hq,?_⟩
 have:=Int.mul_ediv_add_emod x y
 rw[hq,Int.mul_comm]at this
 omega
theorem divisor_of{zY:List Int}{y:Int}{n bl:Nat}(hw:Wd zY)(hc:Can zY)(hne:zY≠ [])(hv:nv zY=y*2^(64-bl))(h2:2≤n)(b1:1≤bl)(b2:bl≤64)(y0:pw^(n-1)*2^(bl-1)≤y)(y1:y<pw^(n-1)*2^bl):Divisor zY n (y*2^(64-bl)):=by
 have hp:=p2pos (64-bl)
 have e63:(2:Int)^(bl-1)*2^(64-bl)=9223372036854775808:=by rw[←Int.pow_add,show bl-1+(64-bl)=63 by omega];rfl
 have e64:(2:Int)^bl*2^(64-bl)=pw:=by rw[←Int.pow_add,show bl+(64-bl)=64 by omega];rfl
 have k1:pw^(n-1)*9223372036854775808≤y*2^(64-bl):=by
  have:=Int.mul_le_mul_of_nonneg_right y0 (Int.le_of_lt hp)
  rw[Int.mul_assoc,e63]at this
  exact this
 have k2:y*2^(64-bl)<pw^n:=by
  have:=Int.mul_lt_mul_of_pos_right y1 hp
  rw[Int.mul_assoc,e64,←Int.pow_succ,show(n-1).succ=n by omega]at this
  exact this
 have hq:=ppos (n-1)
 have hlen:zY.length=n:=by
  have h1:=nv_ge hw hc hne
  have h3:=nv_lt hw
  rw[hv]at h1 h3
  have h0:0<zY.length:=List.length_pos_iff.2 hne
  have l1:zY.length-1<n:=by
   apply Classical.byContradiction
   intro hc
   have:=pow_mono (show n≤zY.length-1 by omega)
   omega
  have l2:n-1<zY.length:=by
   apply Classical.byContradiction
   intro hc
   have:=pow_mono (show zY.length≤n-1 by omega)
   omega
  omega
 refine⟨hlen,h2,hw,hv,?_⟩
 have t:=(nv_upper hw (n-1)).2
 rw[hv,nv_drop_one,show n-1+1=n by omega,List.drop_eq_nil_of_le (by omega)]at t
 simp[nv]at t
 have h4:pw^(n-1)*9223372036854775808<pw^(n-1)*(gd zY (n-1)+1):=by omega
 have:=Int.lt_of_mul_lt_mul_left h4 (Int.le_of_lt hq)
 omega
theorem top_size{zs:List Int}{n:Nat}(hw:Wd zs)(hl:zs.length=n)(h0:0<n)(ht:gd zs (n-1)≠0):pw^(n-1)*2^(blen (gd zs (n-1))-1)≤nv zs∧nv zs<pw^(n-1)*2^blen (gd zs (n-1)):=by
 have h1:=Wd_gd hw (n-1)
 obtain⟨b1,b2,b3⟩:=blen_spec (show 0<gd zs (n-1)by omega)
 have t:=nv_upper hw (n-1)
 rw[nv_drop_one,show n-1+1=n by omega,List.drop_eq_nil_of_le (by omega)]at t
 simp[nv]at t
 have hq:=ppos (n-1)
 have a1:=Int.mul_le_mul_of_nonneg_left b1 (Int.le_of_lt hq)
 have a2:=Int.mul_le_mul_of_nonneg_left (show gd zs (n-1)+1≤2^blen (gd zs (n-1))by omega) (Int.le_of_lt hq)
 omega
end Go.Proofs.YtedhbbjlbgpafaaGreatDoor
