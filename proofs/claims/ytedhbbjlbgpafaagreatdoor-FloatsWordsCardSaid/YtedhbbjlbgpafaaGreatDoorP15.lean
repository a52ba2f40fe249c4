/-
  Contracts of package exact's naturals: long division.
-/
import Derived.Test.YtedhbbjlbgpafaaGreatDoorP14
import Derived.WalkMore
import Derived.Deep.LoopGhost
import Derived.Deep.RegionHeld3
import Derived.Test.YtedhbbjlbgpafaaGreatDoorP11
set_option linter.unusedVariables false
set_option linter.unusedSimpArgs false
set_option maxRecDepth 1000000
set_option maxHeartbeats 4000000
namespace Go.Proofs.YtedhbbjlbgpafaaGreatDoor
open Go.RowKit Go.Shelf
def DivPost(w:World)(x y:Int)(e:Ending)(w':World):Prop:= ∃v1 v2,e=.returned (.tuple #[v1,v2])∧Nt w' v1 (x/y)∧Nt w' v2 (x%y)∧Below w.heap.size w w'
structure LongInv(g g2:Nat)(X Y:Int)(n N m:Nat)(w:World)(L O:List Int):Prop where
 num:LongNum X Y n N m L O
 bl:Blk w g L
 bo:Blk w g2 O
theorem divideLong_any(w:World)(b off cap:Nat)(za:List Int)(x:Int)(b2 off2 cap2:Nat)(zb:List Int)(y:Int)(ha:Ns w b off cap za x)(hb:Ns w b2 off2 cap2 zb y)(hx:x<big)(hyx:y≤x)(h2:2≤zb.length):
 Calls Tryz.prog 253 #[.slice (some ⟨b,off,none⟩) za.length cap,.slice (some ⟨b2,off2,none⟩) zb.length cap2] w (DivPost w x y):=by
 have hla:=ha.len hx
 have hlb:=hb.len (show y<big by omega)
 have hcap:=ha.cap
 have hcap2:=hb.cap
 have hle:zb.length≤za.length:=by
  apply Classical.byContradiction
  intro hc
  have:=ha.lt_of_len hb (by omega)
  omega
 have y0:0<y:=hb.npos
 have hrow:=hb.row
 obtain⟨t0,t1⟩:=gd_bounds hb.wd (zb.length-1)
 have htop:=hb.top
 have hts:=top_size hb.wd rfl (by omega) htop
 rw[hb.val]at hts
 have hxb:=nv_lt ha.wd
 rw[ha.val]at hxb
 have H:=Lib.hid ha
 have H2:=Lib.hid hb
 unfold Row at hrow
 clear ha hb
 obtain⟨l,hl'⟩: ∃l,za.length=l:=⟨_,rfl⟩
 obtain⟨p,hp'⟩: ∃p,zb.length=p+2:=⟨zb.length-2,by omega⟩
 have HL:=Lib.hid hl'
 have HP:=Lib.hid hp'
 rw[hl']at hla hcap hle hxb⊢
 rw[hp']at hlb hcap2 hle hrow t0 t1 htop hts⊢
 clear hl' hp' h2
 rw[show p+2-1=p+1 by omega]at*
 have hcT:=hrow (p+1) (by omega)
 obtain⟨s1,s2,s3⟩:=blen_spec (show 0<gd zb (p+1)by omega)
 have hbl:=blen_le64 t1
 have HLd:=Lib.hid (fun w=>lead_any (gd zb (p+1)) w t0 t1)
 generalize blen (gd zb (p+1))=bl at*
 clear s1 s2 t0 t1 htop hrow
 have HTS:=Lib.hid hts
 have HXB:=Lib.hid hxb
 have HX:=Lib.hid hx
 have HYX:=Lib.hid hyx
 clear hts hxb hx hyx
 have hk:(64-(bl:Int)).toNat=64-bl:=by omega
 have HB:Hid (∀wx,Below w.heap.size w wx→Calls Tryz.prog 155 #[.slice (some ⟨b2,off2,none⟩) (p+2) cap2,.int .i64 (64-(bl:Int))] wx (NewNt wx (y*2^(64-bl)))):=Lib.hid fun wx hw=>by
  have h:=left_any wx _ y (H2.out.below hw).nt (by have:=HX.out;have:=HYX.out;omega) (64-(bl:Int)) (by omega) (by omega)
  rw[HP.out,hk]at h
  exact h
 have HA:Hid (∀wx,Below w.heap.size w wx→Calls Tryz.prog 155 #[.slice (some ⟨b,off,none⟩) l cap,.int .i64 (64-(bl:Int))] wx (NewNt wx (x*2^(64-bl)))):=Lib.hid fun wx hw=>by
  have h:=left_any wx _ x (H.out.below hw).nt HX.out (64-(bl:Int)) (by omega) (by omega)
  rw[HL.out,hk]at h
  exact h
 obtain⟨i0,hi,hz0,hz1,hz2⟩:=info_parts infoU
 have hsz:(Tryz.prog.info? 24).map (·.size)=some 1:=by rw[hi];simp[hz1]
 have HI0:=Lib.hid (And.intro hi (And.intro hz0 (And.intro hz1 hz2)))
 clear hi hz0 hz1 hz2 hk
 go_enter Tryz.func253,Tryz.ntmps253
 go_wp2
 go_step3
 go_wp2_with (go_at_call 214;refine(HLd.out _).mono ?_;rintro en w' ⟨rfl,rfl⟩)
 refine(HB.out _ (Below.refl _ _)).mono ?_
 rintro e w1 ⟨v1,rfl,hv1,hb1⟩
 obtain⟨bY,oY,kY,zY,rfl,hN⟩:=hv1.pos (by have:=Int.mul_pos y0 (p2pos (64-bl));omega)
 have hD:=divisor_of hN.wd hN.can hN.ne hN.val (show 2≤p+2 by omega) s3 hbl HTS.out.1 HTS.out.2
 have HD:=Lib.hid hD
 have HNY:=Lib.hid hN
 have hYcap:=hN.cap
 rw[hD.len]at hYcap⊢
 have HB1:=Lib.hid hb1
 clear hv1 hb1 hN hD
 have hsz1:=HB1.out.size
 go_wp2_with (at_make;refine wpList_make_full w1 rfl (.tmp 28) (.tmp 28) 49 rfl w1.heap.size 24 i0 (.int .u64 0) 1 Tryz.underlying49 HI0.out.1 HI0.out.2.1 HI0.out.2.2.1 .i64 .i64 _ _ (l+1) rfl rfl (by omega) (by omega) (by rw[HI0.out.2.2.2];omega) (by unfold maxLen;omega) (Nat.le_refl _) ?_;intro w2 hown hgrow;have hblk:=Lib.hid (blk_made hown);have hbel:=Lib.hid (below_made hgrow);clear hown hgrow)
 generalize hg:w1.heap.size=g at hblk hbel hsz1
 have HG:=Lib.hid hg
 have HB2:Hid (Below w.heap.size w w2):=Lib.hid (HB1.out.trans (hbel.out.mono hsz1))
 refine(HA.out _ HB2.out).mono ?_
 rintro e w3 ⟨v3,rfl,hv3,hb3⟩
 obtain⟨bX,oX,kX,zX,rfl,hN⟩:=hv3.pos (by have:=Int.mul_pos (show 0<x by have:=HYX.out;omega) (p2pos (64-bl));omega)
 have hXb:x*2^(64-bl)<pw^l*2^(64-bl):=Int.mul_lt_mul_of_pos_right HXB.out (p2pos _)
 have hXl:zX.length≤l+1:=by
  apply Classical.byContradiction
  intro hc
  have h1:=nv_ge hN.wd hN.can hN.ne
  rw[hN.val]at h1
  have h3:=pow_mono (show l+1≤zX.length-1 by omega)
  have h4:(2:Int)^(64-bl)≤pw:=by
   have h5:=p2split (show 64-bl≤64 by omega)
   have h6:=Int.mul_le_mul_of_nonneg_right (show(1:Int)≤2^(64-(64-bl))from p2pos _) (Int.le_of_lt (p2pos (64-bl)))
   have h7:(2:Int)^64=pw:=by decide
   omega
  have h8:=Int.mul_le_mul_of_nonneg_left h4 (Int.le_of_lt (ppos l))
  rw[←Int.pow_succ,show l.succ=l+1 from rfl]at h8
  omega
 have HNX:=Lib.hid hN
 have HXb:=Lib.hid hXb
 have hXcap:=hN.cap
 have hXpos:=hN.pos
 have HB3:=Lib.hid hb3
 obtain⟨lx,hlx⟩: ∃lx,zX.length=lx:=⟨_,rfl⟩
 have HLX:=Lib.hid hlx
 rw[hlx]at hXl hXcap hXpos⊢
 have hblk3:Hid (Blk w3 g (List.replicate (l+1) 0)):=Lib.hid (hblk.out.below hblk.out.lt hb3)
 have hg3:g<w3.heap.size:=hblk3.out.lt
 clear hv3 hb3 hN hlx hXb
 obtain⟨q,hlq⟩: ∃q:Nat,l+1=q+(p+2):=⟨l+1-(p+2),by omega⟩
 have hq:((l:Int)-((p:Int)+2)+1)=q:=by omega
 have hq1:0<q:=by omega
 have hq2:q≤1000:=by omega
 have HLQ:=Lib.hid hlq
 clear hlq
 go_wp2_with (first
  |(refine wpList_copy_splice (o:=⟨some 34,_,_,_,_,_⟩) rfl (.tmp 30) (.tmp 33) 49 49 rfl 24 Tryz.underlying49 hsz _ _ _ _ _ _ rfl rfl g 0 _ 24 hblk3.out (zX.map (Value.int .u64)) (by rw[List.length_map,HLX.out];exact(Nat.min_eq_left hXl).symm) (fun _=>⟨rfl,_,rfl,row_cells HNX.out.row⟩) (by rw[List.length_map,List.length_map,List.length_replicate,HLX.out];omega) (ints_oneCell _ _) g w3 (Below.refl _ _) (Nat.le_refl _) ?_;intro w4 hw4 hbel4;have HB4:=Lib.hid hbel4;clear hbel4)
  |(at_make;refine wpList_make_full w4 rfl (.tmp 39) (.tmp 39) 49 rfl w4.heap.size 24 i0 (.int .u64 0) 1 Tryz.underlying49 HI0.out.1 HI0.out.2.1 HI0.out.2.2.1 .i64 .i64 _ _ q rfl rfl (by omega) (by omega) (by rw[HI0.out.2.2.2];omega) (by unfold maxLen;omega) (Nat.le_refl _) ?_;intro w5 hown hgrow;have hblkO:=Lib.hid (blk_made hown);have hbelO:=Lib.hid (below_made hgrow);clear hown hgrow))
 go_step3
 have hBk:=blk_copied (by rw[HLX.out];exact hXl) hw4.out
 clear hw4
 generalize hg2:w4.heap.size=g2 at hblkO hbelO
 have hgg:g<g2:=by rw[←hg2];exact hBk.lt
 have hbO:=hbelO.out
 rw[←hg2]at hbO
 have HL5:Hid (Blk w5 g (zX++List.replicate (l+1-zX.length) 0)):=Lib.hid (hBk.below hBk.lt hbO)
 have HG2:=Lib.hid hg2
 have HB5:Hid (Below g w3 w5):=Lib.hid (HB4.out.trans (hbO.mono (by rw[hg2];omega)))
 have hS:=LongNum.start (up:=64-bl) (N:=l+1) (L:=zX++List.replicate (l+1-zX.length) 0) HD.out (by simp[HLX.out];omega) (Wd_append.2 ⟨HNX.out.wd,Wd_replicate _⟩) (by rw[nv_append,nv_replicate,HNX.out.val];simp) (by omega) (by omega) HXb.out
 rw[show l+1-(p+2)=q by have:=HLQ.out;omega]at hS
 have HS:=Lib.hid hS
 have HB15:Hid (Below g w1 w5):=Lib.hid ((hbel.out.trans (HB3.out.mono (Nat.le_of_lt hblk.out.lt))).trans HB5.out)
 have HB05:Hid (Below w.heap.size w w5):=Lib.hid (HB1.out.trans (HB15.out.mono hsz1))
 clear hS hBk hbO hg2 HB4 hbelO
 go_wp2_with fail
 rw[show((p:Int)+2-1)=p+1 by omega]
 go_loopg [11] q (fun k u wr=>k≤q∧u=.int .i64 ((k:Int)-1)∧Hid (Below g w5 wr∧ ∃L O,LongInv g g2 (x*2^(64-bl)) (y*2^(64-bl)) (p+2) (l+1) k wr L O))
 case atStart=>exact⟨Nat.le_refl _,rfl,Lib.hid ⟨Below.refl _ _,_,_,⟨HS.out,HL5.out,hblkO.out⟩⟩⟩
 case round=>
  clear HS HL5 hblkO
  obtain⟨hkq,rfl,hr⟩:=hrel
  cases gk with
  |zero=>
   obtain⟨hbw,L,O,hI⟩:=hr.out
   have HI:=Lib.hid hI
   have HBw:=Lib.hid hbw
   have hlO:O.length=q:=by have:=hI.num.lenO;have:=HLQ.out;omega
   have hlL:L.length=l+1:=hI.num.lenL
   have c1:=cut_any g2 0 q O wr (by omega) (by omega) HI.out.bo.row
   have c2:=cut_any g 0 (l+1) L wr (by omega) (by omega) HI.out.bl.row
   rw[hlO]at c1
   rw[hlL]at c2
   have HC1:=Lib.hid c1
   have HC2:=Lib.hid c2
   obtain⟨z1,z2⟩:=hI.num.stop rfl rfl y0
   have hsm:nv L<big:=by
    have h1:=hI.num.rem
    have h2:=HD.out.lt
    have h3:=pow_mono (show p+2≤1000 by omega)
    have h4:big=pw^1000:=rfl
    rw[List.drop_zero]at h1
    omega
   have HZ:=Lib.hid (And.intro z1 (And.intro z2 hsm))
   have HR:Hid (∀v,Nt wr v (nv L)→Calls Tryz.prog 222 #[v,.int .i64 (64-(bl:Int))] wr (NewNt wr (nv L/2^(64-bl)))):=Lib.hid fun v hv=>by
    have h:=right_any wr v (nv L) hv HZ.out.2.2 (64-(bl:Int)) (by omega) (by omega)
    rw[show(64-(bl:Int)).toNat=64-bl by omega]at h
    exact h
   have hlO':=Lib.hid hlO
   have hlL':=Lib.hid hlL
   clear hr hI hbw c1 c2 hlO hlL z1 z2 hsm
   rw[show(((0:Nat):Int)-1)= -1 from rfl]
   go_wp2_with fail
   refine HC1.out.mono ?_
   rintro e w' ⟨rfl,m1,a1,a2,a3,rfl⟩
   go_wp2_with fail
   refine HC2.out.mono ?_
   rintro e w' ⟨rfl,m2,d1,d2,d3,rfl⟩
   go_wp2_with fail
   have hnt:=nt_cut HI.out.bl.row HI.out.bl.lt HI.out.bl.ty HI.out.num.wdL (cap:=l+1) (by rw[hlL'.out];exact Nat.le_refl _) m2 d1 d2 d3
   refine(HR.out _ hnt).mono ?_
   rintro e w' ⟨v2,rfl,hv2,hb2⟩
   obtain⟨bo,lb,cb,rfl⟩:=hv2.shape
   have HV2:=Lib.hid (And.intro hv2 hb2)
   clear hnt hv2 hb2
   go_wp2_with fail
   try rw[Exit.noGoto_ret]
   go_ret2
   have hnt1:=nt_cut HI.out.bo.row HI.out.bo.lt HI.out.bo.ty HI.out.num.wdO (cap:=q) (by rw[hlO'.out];exact Nat.le_refl _) m1 a1 a2 a3
   refine⟨cutVal ⟨g2,0,none⟩ q m1,_,rfl,?_,?_,?_⟩
   ·rw[HZ.out.1];exact hnt1.below HV2.out.2
   ·rw[HZ.out.2.1];exact HV2.out.1
   ·exact(HB05.out.trans (HBw.out.mono (by omega))).trans (HV2.out.2.mono (by have:=HB05.out.size;have:=HBw.out.size;omega))
  |succ i=>
   obtain⟨hbw,L,O,hI⟩:=hr.out
   have HI:=Lib.hid hI
   have HBw:=Lib.hid hbw
   have hlO:O.length=q:=by have:=hI.num.lenO;have:=HLQ.out;omega
   have hlL:L.length=l+1:=hI.num.lenL
   have hil:i+(p+2)<l+1:=by have:=HLQ.out;omega
   have NY:=HNY.out.below (w':=wr) (by rw[HG.out];exact HB15.out.trans hbw)
   have hbY:bY<g:=by have:=HNY.out.lt;have:=HG.out;omega
   have cY1:=NY.row (p+1) (by rw[HD.out.len];omega)
   have cY0:=NY.row p (by rw[HD.out.len];omega)
   have cP2:wr.cell? ⟨g,i+(p+2),none⟩=some (.int .u64 (gd L (i+(p+2)))):=hI.bl.cell _ (by omega)
   have cP1:wr.cell? ⟨g,i+(p+1),none⟩=some (.int .u64 (gd L (i+(p+1)))):=hI.bl.cell _ (by omega)
   have cP0:wr.cell? ⟨g,i+p,none⟩=some (.int .u64 (gd L (i+p))):=hI.bl.cell _ (by omega)
   have cO:wr.cell? ⟨g2,i,none⟩=some (.int .u64 (gd O i)):=hI.bo.cell i (by omega)
   have fO:wr.frozen? ⟨g2,i,none⟩=false:=hI.bo.frozen i
   have hA:=hI.num.args HD.out
   rw[show i+(p+2)-1=i+(p+1)by omega,show i+(p+2)-2=i+p by omega,show p+2-1=p+1 by omega,show p+2-2=p by omega]at hA
   have HGs:=Lib.hid (fun wx=>guessWord_any wx hA)
   have HNY2:=Lib.hid NY
   have hlO':=Lib.hid hlO
   have hlL':=Lib.hid hlL
   clear hr hI hbw hA NY hlO hlL
   have hne1:g≠g2:=by omega
   have hne2:bY≠g2:=by omega
   have hne3:bY≠g:=by omega
   rw[show(((i+1:Nat):Int)-1)=i by omega]
   go_wp2_with fail
   rw[show i+(p+2)+1-i=p+3 by omega]
   have x1:(0:Int)≤(p:Int):=by omega
   have x2:((p:Int)+2-1)=p+1:=by omega
   have x3:((p:Int)+2-2)=p:=by omega
   have y1:IntKind.i64.wrap ((p:Int)+2-1)=p+1:=by rw[x2];exact IntWalk.i64_in _ (by omega)
   have y2:IntKind.i64.wrap ((p:Int)+2-2)=p:=by rw[x3];exact IntWalk.i64_in _ (by omega)
   have y3:IntKind.i64.wrap ((p:Int)+1)=p+1:=IntWalk.i64_in _ (by omega)
   have y4:IntKind.i64.wrap (p:Int)=p:=IntWalk.i64_in _ (by omega)
   have x14:(p:Int).toNat=p:=Int.toNat_natCast p
   have x15:(0:Int)≤(p:Int)+2-2:=by omega
   have x16:((p:Int)+2-2).toNat=p:=by omega
   have x17:((p:Int)+2-2)<((p+3:Nat):Int):=by omega
   have x18:((p:Int)+2-2)<((p+2:Nat):Int):=by omega
   have x4:(0:Int)≤(p:Int)+2:=by omega
   have x5:(0:Int)≤(p:Int)+1:=by omega
   have x6:((p:Int)+2).toNat=p+2:=by omega
   have x7:((p:Int)+1).toNat=p+1:=by omega
   have x8:((p:Int)+2)<((p+3:Nat):Int):=by omega
   have x9:((p:Int)+1)<((p+3:Nat):Int):=by omega
   have x10:(p:Int)<((p+3:Nat):Int):=by omega
   have x11:((p:Int)+1)<((p+2:Nat):Int):=by omega
   have x12:(p:Int)<((p+2:Nat):Int):=by omega
   have x13:(i:Int)<(q:Int):=by omega
   have x20:(p:Int)<(p:Int)+3:=by omega
   have x21:(p:Int)<(p:Int)+2:=by omega
   have hS0:(fun w':World=>w'.cell? ⟨g,i+(p+2),none⟩=some (.int .u64 (gd L (i+(p+2))))∧w'.cell? ⟨g,i+(p+1),none⟩=some (.int .u64 (gd L (i+(p+1))))∧w'.cell? ⟨g,i+p,none⟩=some (.int .u64 (gd L (i+p)))∧w'.cell? ⟨bY,oY+(p+1),none⟩=some (.int .u64 (gd zY (p+1)))∧w'.cell? ⟨bY,oY+p,none⟩=some (.int .u64 (gd zY p))) wr:=⟨cP2,cP1,cP0,cY1,cY0⟩
   go_region_held3 (fun w'=>w'.cell? ⟨g,i+(p+2),none⟩=some (.int .u64 (gd L (i+(p+2))))∧w'.cell? ⟨g,i+(p+1),none⟩=some (.int .u64 (gd L (i+(p+1))))∧w'.cell? ⟨g,i+p,none⟩=some (.int .u64 (gd L (i+p)))∧w'.cell? ⟨bY,oY+(p+1),none⟩=some (.int .u64 (gd zY (p+1)))∧w'.cell? ⟨bY,oY+p,none⟩=some (.int .u64 (gd zY p))) (first|exact⟨by assumption,by assumption,by assumption,by assumption,by assumption⟩|(simp[go_sem, *];done)|go_keep)
    (first
     |(go_at_call 286;refine(HGs.out _).mono ?_;rintro e wg ⟨gw,rfl,hE,hd⟩;have kP2:=(hd.cell ⟨g,i+(p+2),none⟩).trans cP2;have kP1:=(hd.cell ⟨g,i+(p+1),none⟩).trans cP1;have kP0:=(hd.cell ⟨g,i+p,none⟩).trans cP0;have kY1:=(hd.cell ⟨bY,oY+(p+1),none⟩).trans cY1;have kY0:=(hd.cell ⟨bY,oY+p,none⟩).trans cY0;have kO:=(hd.cell ⟨g2,i,none⟩).trans cO;have kF:=(hd.frozen ⟨g2,i,none⟩).trans fO;have HE:=Lib.hid hE;have HDr:=Lib.hid hd;clear hE hd))
   all_goals (
    have HDr2:Hid (Drw wr wg):=Lib.hid ((Drw.step wr 1).trans HDr.out)
    have hB1:Below g wr (wg.setCell ⟨g2,i,none⟩ (.int .u64 gw)):=below_set (HDr2.out.below g) (Nat.le_of_lt hgg) _ _
    have hL1:Blk (wg.setCell ⟨g2,i,none⟩ (.int .u64 gw)) g L:=by
     unfold Blk
     rw[Below.heap_setCell _ _ _ _ hne1]
     exact HI.out.bl.drw HDr2.out
    have hO1:Blk (wg.setCell ⟨g2,i,none⟩ (.int .u64 gw)) g2 (O.set i gw):=(HI.out.bo.drw HDr2.out).set i gw
    generalize wg.setCell ⟨g2,i,none⟩ (.int .u64 gw)=wA at hB1 hL1 hO1⊢
    have HB1A:Hid (Below g w5 wA):=Lib.hid (HBw.out.trans hB1)
    have NYA:=HNY.out.below (w':=wA) (by rw[HG.out];exact HB15.out.trans HB1A.out)
    obtain⟨g0,g1,_,_⟩:=HE.out
    have HT:Hid (∀cp:Nat,Calls Tryz.prog 287 #[.slice (some ⟨g,i,none⟩) (p+2) cp,.slice (some ⟨bY,oY,none⟩) (p+2) kY,.int .u64 gw] wA.drew (TakePost wA.drew g i (p+2) L (y*2^(64-bl)*gw))):=Lib.hid fun cp=>by
     have h:=takeProduct_any wA.drew g i (p+2) cp L (hL1.drw (Drw.step wA 1)) HI.out.num.wdL bY oY kY zY (by rw[hlL'.out];omega) (by rw[hlL'.out];omega) (by rw[HD.out.len];exact Nat.le_refl _) (by rw[HD.out.len];omega) NYA.wd (NYA.below ((Drw.step wA 1).below _)).row hne3 gw g0 g1
     rw[HD.out.len,HD.out.val]at h
     exact h
    have cQ2:wA.cell? ⟨g,i+(p+2),none⟩=some (.int .u64 (gd L (i+(p+2)))):=hL1.cell _ (by rw[hlL'.out];omega)
    have cQO:wA.cell? ⟨g2,i,none⟩=some (.int .u64 gw):=by
     have:=hO1.cell i (by simp[hlO'.out];omega)
     rwa [gd_set_eq (by rw[hlO'.out];omega)]at this
    have HL1:=Lib.hid hL1
    have HO1:=Lib.hid hO1
    have HNYA:=Lib.hid NYA
    clear cP2 cP1 cP0 cY1 cY0 cO fO kP2 kP1 kP0 kY1 kY0 kO kF hS0 hB1 hL1 hO1 NYA
    go_wp2_with fail
    have x22:(p:Int)+2≤((l+1-i:Nat):Int):=by omega
    have hS1:(fun w':World=>w'.cell? ⟨g,i+(p+2),none⟩=some (.int .u64 (gd L (i+(p+2))))∧w'.cell? ⟨g2,i,none⟩=some (.int .u64 gw)) wA:=⟨cQ2,cQO⟩
    go_region_held3 (fun w'=>w'.cell? ⟨g,i+(p+2),none⟩=some (.int .u64 (gd L (i+(p+2))))∧w'.cell? ⟨g2,i,none⟩=some (.int .u64 gw)) (first|exact⟨by assumption,by assumption⟩|go_keep)
     (first
      |(go_at_call 287;refine(HT.out _).mono ?_;rintro e wT ⟨c,M,t0,t1,rfl,t2,t3,t4,t5,t6,t7⟩;have cR2:wT.cell? ⟨g,i+(p+2),none⟩=some (.int .u64 (gd L (i+(p+2)))):=(by have:=t7.cell (i+(p+2)) (by rw[t3,hlL'.out];omega);rw[t6 _ (.inr (Nat.le_refl _))]at this;exact this);have cRO:=t2.cell (((Drw.step wA 1).cell _).trans cQO) hne1.symm;have fR2:=t7.frozen (i+(p+2));have HTT:=Lib.hid (And.intro t2 (And.intro t3 (And.intro t4 (And.intro t5 (And.intro t6 t7)))));clear t2 t3 t4 t5 t6 t7))
    obtain⟨t2,t3,t4,t5,t6,t7⟩:=HTT.out
    have hO2:Blk wT g2 (O.set i gw):=by
     unfold Blk
     rw[t2.block g2 (by have:=HO1.out.lt;simpa using this) (by intro e;injection e with e;omega)]
     exact HO1.out.drw (Drw.step wA 1)
    have hB2:Below g w5 wT:=(HB1A.out.trans ((Drw.step wA 1).below _)).grown t2 (Nat.le_of_lt (show g<wA.drew.heap.size from HL1.out.lt)) (fun k hk=>by cases hk;exact Nat.le_refl _)
    have hE2:=HE.out
    have en1:i+(p+2)-1=i+(p+1):=by omega
    have en2:i+(p+2)-2=i+p:=by omega
    have en3:p+2-1=p+1:=by omega
    have en4:p+2-2=p:=by omega
    rw[←en1,←en2,←en3]at hE2
    conv at hE2=>rw[←en4]
    have HE3:Hid (GuessEnd (gd L (i+(p+2))) (gd L (i+(p+2)-1)) (gd L (i+(p+2)-2)) (gd zY (p+2-1)) (gd zY (p+2-2)) gw):=Lib.hid HE.out
    have HO2:=Lib.hid hO2
    have HB2':=Lib.hid hB2
    clear t2 t3 t4 t5 t6 t7 hO2 hB2 hE2 en1 en2 en3 en4 cQ2 cQO hS1
    have hil2:i<O.length:=by rw[hlO'.out];omega
    by_cases hc:gd L (i+(p+2))<c
    ·have hg1:=long_pos HD.out HI.out.num hil2 HE3.out HTT.out.2.2.1 HTT.out.2.1 HTT.out.2.2.2.1 HTT.out.2.2.2.2.1 hc
     go_wp2_with fail
     have hLZ:Blk (wT.setCell ⟨g,i+(p+2),none⟩ (.int .u64 0)) g (M.set (i+(p+2)) 0):=HTT.out.2.2.2.2.2.set _ _
     have hOZ:Blk (wT.setCell ⟨g,i+(p+2),none⟩ (.int .u64 0)) g2 (O.set i gw):=by
      unfold Blk
      rw[Below.heap_setCell _ _ _ _ hne1.symm]
      exact HO2.out
     have hBZ:Below g w5 (wT.setCell ⟨g,i+(p+2),none⟩ (.int .u64 0)):=below_set HB2'.out (Nat.le_refl _) _ _
     generalize wT.setCell ⟨g,i+(p+2),none⟩ (.int .u64 0)=wZ at hLZ hOZ hBZ⊢
     have cZO:wZ.cell? ⟨g2,i,none⟩=some (.int .u64 gw):=by
      have:=hOZ.cell i (by simp;exact hil2)
      rwa [gd_set_eq hil2]at this
     have fZO:wZ.frozen? ⟨g2,i,none⟩=false:=hOZ.frozen i
     have HLZ:=Lib.hid hLZ
     have HOZ:=Lib.hid hOZ
     have HBZ:=Lib.hid hBZ
     clear hLZ hOZ hBZ cR2 cRO fR2
     refine wp_loop_rounds 1 ?_
     rw[rounds_succ]
     go_wp2_with fail
     have hBZ2:Below g w5 (wZ.setCell ⟨g2,i,none⟩ (.int .u64 (gw-1))):=below_set HBZ.out (Nat.le_of_lt hgg) _ _
     have hLZ2:Blk (wZ.setCell ⟨g2,i,none⟩ (.int .u64 (gw-1))) g (M.set (i+(p+2)) 0):=by
      unfold Blk
      rw[Below.heap_setCell _ _ _ _ hne1]
      exact HLZ.out
     have hOZ2:Blk (wZ.setCell ⟨g2,i,none⟩ (.int .u64 (gw-1))) g2 (O.set i (gw-1)):=by
      have:=HOZ.out.set i (gw-1)
      rwa [List.set_set]at this
     generalize wZ.setCell ⟨g2,i,none⟩ (.int .u64 (gw-1))=wY at hBZ2 hLZ2 hOZ2⊢
     have NYY:=HNY.out.below (w':=wY) (by rw[HG.out];exact HB15.out.trans hBZ2)
     have hAd:=addTo_some wY g i (p+2) (l+1-i) (M.set (i+(p+2)) 0) hLZ2 (Wd_set HTT.out.2.2.1 ⟨Int.le_refl _,pw_pos⟩) (by rw[List.length_set,HTT.out.2.1,hlL'.out];omega) (by rw[List.length_set,HTT.out.2.1,hlL'.out];omega) bY oY kY zY (by rw[HD.out.len];exact Nat.le_refl _) (by rw[HD.out.len];omega) NYY.wd NYY.row hne3
     rw[HD.out.len,HD.out.val]at hAd
     refine hAd.mono ?_
     rintro e wX ⟨c2,M3,r0,r1,rfl,r2,r3,r4,r5,r6,r7⟩
     obtain⟨f1,f2,f3⟩:=long_back HD.out HI.out.num hil2 HE3.out HTT.out.2.2.1 HTT.out.2.1 HTT.out.2.2.2.1 HTT.out.2.2.2.2.1 hc r0 r1 r4 r3 r5 r6
     subst f2
     have hOX:Blk wX g2 (O.set i (gw-1)):=by
      unfold Blk
      rw[r2.block g2 hOZ2.lt (by intro e;injection e with e;omega)]
      exact hOZ2
     have hBX:Below g w5 wX:=hBZ2.grown r2 (Nat.le_of_lt hLZ2.lt) (fun k hk=>by cases hk;exact Nat.le_refl _)
     have HX3:=Lib.hid (And.intro f3 (And.intro r7 (And.intro hOX hBX)))
     clear hBZ2 hLZ2 hOZ2 NYY hAd r0 r1 r2 r3 r4 r5 r6 r7 f1 f3 hOX hBX cZO fZO
     go_wp2_with fail
     go_roundg i
     case measure=>omega
     case rel=>exact⟨by omega,by first|rfl|go_num,Lib.hid ⟨HX3.out.2.2.2,_,_,⟨HX3.out.1,HX3.out.2.1,HX3.out.2.2.1⟩⟩⟩
    ·go_wp2_with fail
     have hLZ:Blk (wT.setCell ⟨g,i+(p+2),none⟩ (.int .u64 0)) g (M.set (i+(p+2)) 0):=HTT.out.2.2.2.2.2.set _ _
     have hOZ:Blk (wT.setCell ⟨g,i+(p+2),none⟩ (.int .u64 0)) g2 (O.set i gw):=by
      unfold Blk
      rw[Below.heap_setCell _ _ _ _ hne1.symm]
      exact HO2.out
     have hBZ:Below g w5 (wT.setCell ⟨g,i+(p+2),none⟩ (.int .u64 0)):=below_set HB2'.out (Nat.le_refl _) _ _
     generalize wT.setCell ⟨g,i+(p+2),none⟩ (.int .u64 0)=wZ at hLZ hOZ hBZ⊢
     have HLZ:=Lib.hid hLZ
     have HOZ:=Lib.hid hOZ
     have HBZ:=Lib.hid hBZ
     clear hLZ hOZ hBZ cR2 cRO fR2
     refine wp_loop_rounds 1 ?_
     rw[rounds_succ]
     go_wp2_with fail
     go_roundg i
     case measure=>omega
     case rel=>exact⟨by omega,by first|rfl|go_num,Lib.hid ⟨HBZ.out,_,_,⟨long_right HD.out HI.out.num hil2 HE3.out HTT.out.2.2.1 HTT.out.2.1 HTT.out.2.2.2.1 HTT.out.2.2.2.2.1 (by omega),HLZ.out,HOZ.out⟩⟩⟩)
theorem divide_less(w:World)(va vb:Value)(x y:Int)(ha:Nt w va x)(hb:Nt w vb y)(hx:x<big)(hy:y<big)(x0:0≤x)(h:x<y):
 Calls Tryz.prog 217 #[va,vb] w (DivPost w x y):=by
 have HC:=Lib.hid (natCmp_any w va vb x y ha hb hx hy)
 rw[cmpI_lt h]at HC
 obtain⟨bo,lb,cb,rfl⟩:=ha.shape
 obtain⟨bo2,lb2,cb2,rfl⟩:=hb.shape
 have HA:=Lib.hid ha
 have H:=Lib.hid h
 clear ha hb hx hy h
 go_enter Tryz.func217,Tryz.ntmps217
 go_wp2_with (go_at_call 201;refine HC.out.mono ?_;rintro e w1 ⟨rfl,hd⟩;have HD:=Lib.hid hd;clear hd)
 go_ret2
 refine⟨.slice none 0 0,_,rfl,?_,?_,HD.out.below _⟩
 ·rw[Int.ediv_eq_zero_of_lt x0 H.out];exact Nt.zero _
 ·rw[Int.emod_eq_of_lt x0 H.out];exact HA.out.below (HD.out.below _)
theorem divide_ge(w:World)(b off cap:Nat)(za:List Int)(x:Int)(b2 off2 cap2:Nat)(zb:List Int)(y:Int)(ha:Ns w b off cap za x)(hb:Ns w b2 off2 cap2 zb y)(hx:x<big)(h:y≤x):
 Calls Tryz.prog 217 #[.slice (some ⟨b,off,none⟩) za.length cap,.slice (some ⟨b2,off2,none⟩) zb.length cap2] w (DivPost w x y):=by
 have HC:=Lib.hid (natCmp_any w _ _ x y ha.nt hb.nt hx (by omega))
 have hc0: ¬cmpI x y<0:=by unfold cmpI;split<;>(try split)<;>omega
 have hla:=ha.len hx
 have hlb:=hb.len (show y<big by omega)
 have hcap:=ha.cap
 have hcap2:=hb.cap
 have hpos:=hb.pos
 have cB:=hb.row 0 hb.pos
 rw[Nat.add_zero]at cB
 have HA:=Lib.hid ha
 have HB:=Lib.hid hb
 have H:=Lib.hid (And.intro hx h)
 have y0:=hb.npos
 clear ha hb hx h
 obtain⟨l,hl'⟩: ∃l,za.length=l:=⟨_,rfl⟩
 obtain⟨k,hk'⟩: ∃k,zb.length=k:=⟨_,rfl⟩
 have HL:=Lib.hid hl'
 have HK:=Lib.hid hk'
 rw[hl']at HC hla hcap⊢
 rw[hk']at HC hlb hcap2 hpos⊢
 clear hl' hk'
 generalize cmpI x y=c at HC hc0
 by_cases h1:k=1
 ·subst h1
  have hv:gd zb 0=y:=HB.out.one HK.out
  rw[hv]at cB
  obtain⟨y1,y2⟩:=gd_bounds HB.out.wd 0
  rw[hv]at y1 y2
  clear hv
  have HW:Hid (∀wx,Drw w wx→Calls Tryz.prog 252 #[.slice (some ⟨b,off,none⟩) l cap,.int .u64 y] wx (DivwPost wx x y)):=Lib.hid fun wx hd=>by
   have h:=divideByWord_any wx b off cap za x y (HA.out.below (hd.below _)) H.out.1 y0 y2
   rw[HL.out]at h
   exact h
  go_enter Tryz.func217,Tryz.ntmps217
  go_wp2_with (first
   |(go_at_call 201;refine HC.out.mono ?_;rintro e w1 ⟨rfl,hd⟩;have cB1:=(hd.cell ⟨b2,off2,none⟩).trans cB;have HD:=Lib.hid hd;clear hd)
   |(go_at_call 252;refine(HW.out _ HD.out).mono ?_;rintro e w2 ⟨v,rfl,hv,hb⟩;obtain⟨bo,lb,cb,rfl⟩:=hv.shape;have HV:=Lib.hid (And.intro hv hb);clear hv hb)
   |(go_at_call 158;refine(fromWord_any _ _ (Int.emod_nonneg _ (by omega)) (by have:=Int.emod_lt_of_pos x y0;omega)).mono ?_;rintro e w3 ⟨v,rfl,hv,hb⟩;obtain⟨bo3,lb3,cb3,rfl⟩:=hv.shape;have HV3:=Lib.hid (And.intro hv hb);clear hv hb))
  go_ret2
  have s1:=HV.out.2.size
  have s0:w.heap.size=w1.heap.size:=by rw[HD.out.heap]
  exact⟨_,_,rfl,HV.out.1.below HV3.out.2,HV3.out.1,((HD.out.below _).trans (HV.out.2.mono (by omega))).trans (HV3.out.2.mono (by omega))⟩
 ·have HW:Hid (∀wx,Drw w wx→Calls Tryz.prog 253 #[.slice (some ⟨b,off,none⟩) l cap,.slice (some ⟨b2,off2,none⟩) k cap2] wx (DivPost wx x y)):=Lib.hid fun wx hd=>by
   have h:=divideLong_any wx b off cap za x b2 off2 cap2 zb y (HA.out.below (hd.below _)) (HB.out.below (hd.below _)) H.out.1 H.out.2 (by rw[HK.out];omega)
   rw[HL.out,HK.out]at h
   exact h
  clear cB
  go_enter Tryz.func217,Tryz.ntmps217
  go_wp2_with (first
   |(go_at_call 201;refine HC.out.mono ?_;rintro e w1 ⟨rfl,hd⟩;have HD:=Lib.hid hd;clear hd)
   |(go_at_call 253;refine(HW.out _ HD.out).mono ?_;rintro e w2 ⟨v1,v2,rfl,hv1,hv2,hb⟩;obtain⟨bo,lb,cb,rfl⟩:=hv1.shape;obtain⟨bo2,lb2,cb2,rfl⟩:=hv2.shape;have HV:=Lib.hid (And.intro hv1 (And.intro hv2 hb));clear hv1 hv2 hb))
  go_ret2
  have s0:w.heap.size=w1.heap.size:=by rw[HD.out.heap]
  exact⟨_,_,rfl,HV.out.1,HV.out.2.1,(HD.out.below _).trans (HV.out.2.2.mono (by omega))⟩
theorem divide_any(w:World)(va vb:Value)(x y:Int)(ha:Nt w va x)(hb:Nt w vb y)(hx:x<big)(hy:y<big)(x0:0≤x)(y0:0<y):
 Calls Tryz.prog 217 #[va,vb] w (DivPost w x y):=by
 by_cases h:x<y
 ·exact divide_less w va vb x y ha hb hx hy x0 h
 ·obtain⟨b,off,cap,za,rfl,hA⟩:=ha.pos (by omega)
  obtain⟨b2,off2,cap2,zb,rfl,hB⟩:=hb.pos (by omega)
  exact divide_ge w b off cap za x b2 off2 cap2 zb y hA hB hx (by omega)
theorem restByWord_any(w:World)(b off cap:Nat)(za:List Int)(x f:Int)(ha:Ns w b off cap za x)(hx:x<big)(f0:0<f)(f1:f<18446744073709551616):
 Calls Tryz.prog 249 #[.slice (some ⟨b,off,none⟩) za.length cap,.int .u64 f] w (DrewPost w (.int .u64 (x%f))):=by
 have hl:=ha.len hx
 have hcap:=ha.cap
 have hpos:=ha.pos
 have H:=Lib.hid ha
 clear ha hx
 obtain⟨l,hl'⟩: ∃l,za.length=l:=⟨_,rfl⟩
 have HL:=Lib.hid hl'
 rw[hl']at hl hcap hpos⊢
 clear hl'
 go_enter Tryz.func249,Tryz.ntmps249
 go_wp2_with fail
 go_loopw [5,6] (fun u v wr=> ∃(m:Nat) (r:Int),m≤l∧0≤r∧r<f∧u=.int .u64 r∧v=.int .i64 ((m:Int)-1)∧Hid (Drw w wr∧ ∃q,q*f+r=nv (za.drop m))) (fun _ v _=>(intOf v+1).toNat)
 case atStart=>exact⟨l,0,Nat.le_refl _,by omega,f0,rfl,rfl,Lib.hid ⟨Drw.refl _,0,by rw[List.drop_eq_nil_of_le (by rw[HL.out];exact Nat.le_refl _)];simp[nv]⟩⟩
 case round=>
  obtain⟨m,r,hml,r0,r1,rfl,rfl,hr⟩:=hrel
  rcases m with _|m
  ·rw[show(((0:Nat):Int)-1)= -1 from rfl]
   go_wp2_with fail
   go_ret
   obtain⟨hd,q,hq⟩:=hr.out
   rw[List.drop_zero,H.out.val]at hq
   have hm:x%f=r:=by
    rw[←hq,Int.add_comm,Int.add_mul_emod_self_right,Int.emod_eq_of_lt r0 r1]
   rw[hm]
   exact⟨rfl,hd⟩
  ·obtain⟨hbw,q,hq⟩:=hr.out
   have cA:=(hbw.cell ⟨b,off+m,none⟩).trans (H.out.row m (by rw[HL.out];omega))
   have HI:=Lib.hid hq
   have HBw:=Lib.hid hbw
   obtain⟨a0,a1⟩:=gd_bounds H.out.wd m
   have HC:=Lib.hid (fun wx=>div64_any wx r (gd za m) f r0 r1 a0 a1 f1)
   have e0:0≤(r*18446744073709551616+gd za m)%f:=Int.emod_nonneg _ (by omega)
   have e1:(r*18446744073709551616+gd za m)%f<f:=Int.emod_lt_of_pos _ f0
   have HQ:=Lib.hid (And.intro e0 e1)
   have hcast:(((m+1:Nat):Int)-1)=m:=by omega
   rw[hcast]
   clear hr hq hbw a0 a1 e0 e1 hcast
   go_wp2_with (go_at_call 285;refine(HC.out _).mono ?_;rintro e w' ⟨rfl,hd⟩;have HD:=Lib.hid hd;clear hd)
   go_roundw
   case rel=>
    refine⟨m,_,by omega,HQ.out.1,HQ.out.2,rfl,by go_num,Lib.hid ⟨HBw.out.trans HD.out,q*18446744073709551616+(r*18446744073709551616+gd za m)/f,?_⟩⟩
    rw[nv_drop_one za m,←HI.out,show pw=18446744073709551616 from rfl]
    have e:=Int.mul_ediv_add_emod (r*18446744073709551616+gd za m) f
    generalize (r*18446744073709551616+gd za m)/f=q' at*
    generalize (r*18446744073709551616+gd za m)%f=s at*
    have:s=r*18446744073709551616+gd za m-f*q':=by omega
    rw[this];grind
   case measure=>simp[intOf]<;>omega
theorem gcd_twos{a b m:Int}{k:Nat}(ha:a%2=1)(h:b=2^k*m):Int.gcd a b=Int.gcd a m:=by
 subst h
 have hc:Nat.Coprime (2^k) a.natAbs:=by
  apply Nat.Coprime.pow_left
  rw[Nat.coprime_iff_gcd_eq_one,Nat.gcd_rec,show a.natAbs%2=1 by omega]
  rfl
 rw[Int.gcd_eq_natAbs_gcd_natAbs,Int.gcd_eq_natAbs_gcd_natAbs,Int.natAbs_mul,Int.natAbs_pow]
 exact hc.gcd_mul_left_cancel_right _
theorem gcd_less(a b:Int):Int.gcd a (b-a)=Int.gcd a b:=by
 simp
structure GW(G:Nat)(a b:Int):Prop where
 odd:a%2=1
 a0:0<a
 a1:a<18446744073709551616
 b0:0≤b
 b1:b<18446744073709551616
 gcd:Int.gcd a b=G
theorem GW.next{G:Nat}{a b m:Int}{k:Nat}(h:GW G a b)(hb:b=2^k*(2*m+1))(m0:0≤m):
 (a>2*m+1→GW G (2*m+1) (a-(2*m+1)))∧(a≤2*m+1→GW G a (2*m+1-a)):=by
 have hk:1≤(2:Int)^k:=Int.pow_pos (by decide)
 have hle:2*m+1≤b:=by
  rw[hb]
  have:=Int.mul_le_mul_of_nonneg_right hk (show 0≤2*m+1 by omega)
  omega
 have hg:=gcd_twos h.odd hb
 have:=h.a0;have:=h.a1;have:=h.b1;have:=h.odd
 refine⟨fun hl=>⟨by omega,by omega,by omega,by omega,by omega,?_⟩,fun hl=>⟨h.odd,h.a0,h.a1,by omega,by omega,?_⟩⟩
 ·rw[gcd_less,Int.gcd_comm,←hg,h.gcd]
 ·rw[gcd_less,←hg,h.gcd]
theorem gcdWords_any(w:World)(a b:Int)(hE:Env w)(a0:0≤a)(a1:a<18446744073709551616)(b0:0≤b)(b1:b<18446744073709551616)(h:a%2=1∨b%2=1)(ha:0<a):
 Calls Tryz.prog 248 #[.int .u64 a,.int .u64 b] w fun e w'=>e=.returned (.int .u64 (Int.gcd a b))∧w=w':=by
 have HE:=Lib.hid hE
 have HH:=Lib.hid h
 clear hE h
 have hrem:a.tmod 2=a%2:=Int.tmod_eq_emod_of_nonneg a0
 have HS:Hid ((a%2=0→GW (Int.gcd a b) b a)∧(a%2≠0→GW (Int.gcd a b) a b)):=Lib.hid ⟨fun h0=>⟨by have:=HH.out;omega,by have:=HH.out;omega,b1,a0,a1,Int.gcd_comm _ _⟩,fun h0=>⟨by omega,ha,a1,b0,b1,rfl⟩⟩
 clear HH
 generalize hG:Int.gcd a b=G at HS⊢
 clear hG
 go_enter Tryz.func248,Tryz.ntmps248
 go_wp2_with fail
 all_goals rename_i hp _ _
 all_goals try simp only[hp]
 all_goals go_loop [0,1] (fun u v=> ∃x y:Int,u=.int .u64 x∧v=.int .u64 y∧Hid (GW G x y)) (fun u v=>(intOf u+intOf v).toNat)
 case atStart=>exact⟨b,a,rfl,rfl,Lib.hid (HS.out.1 (by simpa using hp))⟩
 case atStart=>exact⟨a,b,rfl,rfl,Lib.hid (HS.out.2 (by simpa using hp))⟩
 all_goals (
  obtain⟨x,y,rfl,rfl,hx⟩:=hrel
  have hx0:=hx.out.a0
  have hx1:=hx.out.a1
  have hy0:=hx.out.b0
  have hy1:=hx.out.b1
  by_cases h0:y=0
  ·subst h0
   go_wp2_with fail
   go_ret
   have hg:=hx.out.gcd
   rw[Int.gcd_zero_right]at hg
   exact⟨congrArg (fun i=>Ending.returned (Value.int .u64 i)) (by omega),rfl⟩
  ·have hb:(y==0)=false:=by simpa using h0
   have yp:0<y:=by omega
   obtain⟨c1,m,c2⟩:=ctz_spec _ yp hy1
   have HT:=Lib.hid (fun wx (hwx:Env wx)=>tz_any y wx hwx yp hy1)
   generalize Lib.ctz 64 y.toNat=k at c1 c2 HT
   have k0:(0:Int)<2^k:=Int.pow_pos (by decide)
   have m0:0≤m:=by
    apply Classical.byContradiction
    intro hh
    have:=Int.mul_le_mul_of_nonneg_left (show 2*m+1≤ -1 by omega) (Int.le_of_lt k0)
    omega
   have hN:=Lib.hid (hx.out.next c2 m0)
   have hle:2*m+1≤y:=by
    rw[c2]
    have:=Int.mul_le_mul_of_nonneg_right (show 1≤(2:Int)^k by omega) (show 0≤2*m+1 by omega)
    omega
   have d1:y/2^k=2*m+1:=by rw[c2,Int.mul_ediv_cancel_left _ (by omega)]
   have d2:min k 64=k:=by omega
   obtain⟨q,hq⟩: ∃q,2*m+1=q:=⟨_,rfl⟩
   rw[hq]at hN hle d1
   have q0:0<q:=by omega
   have HK:=Lib.hid c1
   clear c1 c2 m0 hq k0
   by_cases hlt:q<x
   ·go_wp2_with (go_at_call 255;refine(HT.out _ HE.out).mono ?_;rintro e w' ⟨rfl,rfl⟩)
    go_round
    case rel=>exact⟨_,_,rfl,rfl,Lib.hid (hN.out.1 hlt)⟩
    case measure=>simp[intOf]<;>omega
   ·go_wp2_with (go_at_call 255;refine(HT.out _ HE.out).mono ?_;rintro e w' ⟨rfl,rfl⟩)
    go_round
    case rel=>exact⟨_,_,rfl,rfl,Lib.hid (hN.out.2 (by omega))⟩
    case measure=>simp[intOf]<;>omega)
theorem diff_math{n l:Nat}{M1 M3:List Int}{c c' X Y:Int}(hln:l<n)(hl1:M1.length=n)(h1:Wd M1)(v1:nv M1=X-pw^l*c)(g1:gd M1 l=0)(hl3:M3.length=n)(h3:Wd M3)
 (v3:nv M3=nv (M1.set l c)-Y+pw^n*c') (c0:0≤c') (hD:Y≤X):nv M3=X-Y:=by
 rw[nv_set _ _ _ (by omega),v1,g1]at v3
 have hlt:=nv_lt h3
 rw[hl3]at hlt
 have hp:(0:Int)<pw^n:=Int.pow_pos (by decide)
 have e:nv M3=X-Y+pw^n*c':=by rw[v3];grind
 have:c'=0:=by
  apply Classical.byContradiction
  intro hh
  have:=Int.mul_le_mul_of_nonneg_left (show 1≤c' by omega) (Int.le_of_lt hp)
  omega
 rw[e,this];simp
theorem difference_any(w:World)(b off cap:Nat)(za:List Int)(x:Int)(b2 off2 cap2:Nat)(zb:List Int)(y:Int)(ha:Ns w b off cap za x)(hb:Ns w b2 off2 cap2 zb y)(hx:x<big)(hy:y<big)
 (f h:Int) (f0:0≤f) (f1:f<18446744073709551616) (h0:0≤h) (h1:h<18446744073709551616) (hD:y*h≤x*f):
 Calls Tryz.prog 284 #[.slice (some ⟨b,off,none⟩) za.length cap,.int .u64 f,.slice (some ⟨b2,off2,none⟩) zb.length cap2,.int .u64 h] w (NewNt w (x*f-y*h)):=by
 have hl:=ha.len hx
 have hl2:=hb.len hy
 have hcap:=ha.cap
 have hcap2:=hb.cap
 have hpos:=ha.pos
 have hpos2:=hb.pos
 have HLT:=Lib.hid ha.lt
 have HLT2:=Lib.hid hb.lt
 have H:=Lib.hid ha
 have H2:=Lib.hid hb
 have HF:=Lib.hid (And.intro f0 (And.intro f1 (And.intro h0 (And.intro h1 hD))))
 clear ha hb hx hy f0 f1 h0 h1 hD
 obtain⟨l,hl'⟩: ∃l,za.length=l:=⟨_,rfl⟩
 obtain⟨k,hk'⟩: ∃k,zb.length=k:=⟨_,rfl⟩
 have HL:=Lib.hid hl'
 have HK:=Lib.hid hk'
 rw[hl']at hl hcap hpos⊢
 rw[hk']at hl2 hcap2 hpos2⊢
 clear hl' hk'
 obtain⟨n,hn⟩: ∃n,max l k=n:=⟨_,rfl⟩
 have hn2:max (l:Int) (k:Int)=(n:Int):=by omega
 have hn3:n≤1000:=by omega
 have hn4:l≤n:=by omega
 have hn5:k≤n:=by omega
 clear hn
 obtain⟨i0,hi,hz0,hz1,hz2⟩:=info_parts infoU
 go_enter Tryz.func284,Tryz.ntmps284
 go_wp2_with (at_make;refine wpList_make_full w rfl (.tmp 15) (.tmp 15) 49 rfl w.heap.size 24 i0 (.int .u64 0) 1 Tryz.underlying49 hi hz0 hz1 .i64 .i64 _ _ (n+1) rfl rfl (by omega) (by omega) (by rw[hz2];omega) (by unfold maxLen;omega) (Nat.le_refl _) ?_;intro w1 hown hgrow;have hblk:=Lib.hid (blk_made hown);have hbel:=Lib.hid (below_made hgrow);clear hown hgrow hi hz0 hz1 hz2)
 generalize hg:w.heap.size=g at hblk hbel⊢
 have HG:=Lib.hid hg
 clear hg
 have HA:=Lib.hid (H.out.below (w':=w1) (by rw[HG.out];exact hbel.out))
 have HC:Hid (∀cp:Nat,Calls Tryz.prog 263 #[.slice (some ⟨g,0,none⟩) l cp,.slice (some ⟨b,off,none⟩) l cap,.int .u64 f] w1 (ProdPost w1 g 0 l (List.replicate (n+1) 0) (x*f))):=Lib.hid fun cp=>by
  have h:=addProduct_any w1 g 0 l cp (List.replicate (n+1) 0) hblk.out (Wd_replicate _) b off cap za (by rw[HL.out,List.length_replicate];omega) (by rw[List.length_replicate];omega) (by rw[HL.out];exact Nat.le_refl _) (by rw[HL.out];exact hcap) HA.out.wd HA.out.row (by have:=HLT.out;have:=HG.out;omega) f HF.out.1 HF.out.2.1
  rw[HL.out,HA.out.val]at h
  exact h
 refine(HC.out _).mono ?_
 rintro e w2 ⟨c,M1,c0,c1,rfl,p1,p2,p3,p4,p5,p6⟩
 rw[List.length_replicate]at p2
 have cO:=p6.cell l (by rw[p2];omega)
 have fO:=p6.frozen l
 rw[nv_replicate,Nat.zero_add,Int.pow_zero,Int.one_mul,Int.zero_add]at p4
 have p7:gd M1 l=0:=by rw[p5 l (.inr (by omega)),gd_zeros]
 have HP:=Lib.hid (And.intro c0 (And.intro c1 (And.intro p1 (And.intro p2 (And.intro p3 (And.intro p4 (And.intro p7 p6)))))))
 clear c0 c1 p1 p2 p3 p4 p5 p6 p7
 go_wp2_with fail
 obtain⟨c0,c1,p1,p2,p3,p4,p7,p6⟩:=HP.out
 have hB2:Below g w (w2.setCell ⟨g,l,none⟩ (.int .u64 c)):=below_set (hbel.out.grown p1 (by have:=hbel.out.size;have:=HG.out;omega) (fun _ hk=>by cases hk;exact Nat.le_refl _)) (Nat.le_refl _) _ _
 have hT:=takeProduct_any (w2.setCell ⟨g,l,none⟩ (.int .u64 c)) g 0 (n+1) (n+1) (M1.set l c) (p6.set _ _) (Wd_set p3 ⟨c0,c1⟩) b2 off2 cap2 zb (by simp[p2]) (by simp[p2];omega) (by rw[HK.out];omega) (by rw[HK.out];exact hcap2) H2.out.wd (H2.out.below (by rw[HG.out];exact hB2)).row (by have:=HLT2.out;have:=HG.out;omega) h HF.out.2.2.1 HF.out.2.2.2.1
 rw[HK.out,H2.out.val]at hT
 have HB2:=Lib.hid hB2
 clear c0 c1 p1 p2 p3 p4 p7 p6 hB2
 refine hT.mono ?_
 rintro e w3 ⟨c',M3,d0,d1,rfl,q1,q2,q3,q4,q5,q6⟩
 obtain⟨c0,c1,p1,p2,p3,p4,p7,p6⟩:=HP.out
 rw[Int.pow_zero,Int.one_mul,Nat.zero_add]at q4
 rw[List.length_set,p2]at q2
 have hv:=diff_math (by omega) p2 p3 p4 p7 q2 q3 q4 d0 HF.out.2.2.2.2
 have hB3:=HB2.out.grown q1 (by have:=HB2.out.size;have:=HG.out;omega) (fun _ hk=>by cases hk;exact Nat.le_refl _)
 have hcut:=cut_any g 0 (n+1) M3 w3 (by rw[q2];omega) (by rw[q2];exact Nat.le_refl _) q6.row
 rw[q2]at hcut
 have HCC:=Lib.hid hcut
 have HQ:=Lib.hid (And.intro q2 (And.intro q3 (And.intro hv (And.intro hB3 q6))))
 clear c0 c1 p1 p2 p3 p4 p7 p6 q1 q2 q3 q4 q5 q6 hv hB3 d0 d1 hcut hT
 go_wp2_with fail
 refine HCC.out.mono ?_
 rintro e w' ⟨rfl,m',hm1,hm2,hm3,rfl⟩
 go_wp2_with fail
 go_ret
 obtain⟨q2,q3,hv,hB3,q6⟩:=HQ.out
 refine⟨_,rfl,?_,by rw[HG.out];exact hB3⟩
 rw[←hv]
 exact nt_cut q6.row q6.lt q6.ty q3 (by rw[q2];exact Nat.le_refl _) m' hm1 hm2 hm3
end Go.Proofs.YtedhbbjlbgpafaaGreatDoor
namespace Go.Proofs.YtedhbbjlbgpafaaGreatDoor
def tw(t:Bool):Int:=if t then 1 else-1
theorem tw_sq(t:Bool):tw t*tw t=1:=by cases t<;>rfl
theorem tw_not(t:Bool):tw (!t)= -tw t:=by cases t<;>rfl
structure Sim(A B hi lo u1 v1 u2 v2:Int)(t:Bool):Prop where
 ehi:hi=tw t*(u1*A-v1*B)
 elo:lo= -(tw t*(u2*A-v2*B))
 det:u1*v2-u2*v1=tw t
 u1n:0≤u1
 v1n:0≤v1
 u2n:0≤u2
 v2n:1≤v2
 le2:u2≤v2
 le12:u1+u2≤v1+v2
 one:1≤u1+u2
 pos:v1≠0→1≤u2
 lon:0≤lo
 lohi:lo≤hi
theorem Sim.start{A B:Int}(h0:0≤B)(h1:B≤A):Sim A B A B 1 0 0 1 true:=
 ⟨by simp[tw],by simp[tw],by simp[tw],by omega,by omega,by omega,by omega,by omega,by omega,by omega,by omega,h0,h1⟩
theorem Sim.sumA{A B hi lo u1 v1 u2 v2:Int}{t:Bool}(h:Sim A B hi lo u1 v1 u2 v2 t):v2*hi+v1*lo=A:=by
 have e:v2*hi+v1*lo=tw t*(u1*v2-u2*v1)*A:=by rw[h.ehi,h.elo];grind
 rw[e,h.det,tw_sq,Int.one_mul]
theorem Sim.sumB{A B hi lo u1 v1 u2 v2:Int}{t:Bool}(h:Sim A B hi lo u1 v1 u2 v2 t):u2*hi+u1*lo=B:=by
 have e:u2*hi+u1*lo=tw t*(u1*v2-u2*v1)*B:=by rw[h.ehi,h.elo];grind
 rw[e,h.det,tw_sq,Int.one_mul]
theorem Sim.next{A B hi lo u1 v1 u2 v2:Int}{t:Bool}(h:Sim A B hi lo u1 v1 u2 v2 t)(hl:v2≤lo):
 Sim A B lo (hi-hi/lo*lo) u2 v2 (u1+hi/lo*u2) (v1+hi/lo*v2) (!t):=by
 have l0:0<lo:=by have:=h.v2n;omega
 have q1:1≤hi/lo:=(Int.le_ediv_iff_mul_le l0).2 (by rw[Int.one_mul];exact h.lohi)
 have m0:0≤hi%lo:=Int.emod_nonneg _ (by omega)
 have m1:hi%lo<lo:=Int.emod_lt_of_pos _ l0
 have e:=Int.mul_ediv_add_emod hi lo
 generalize hi/lo=q at*
 have e2:hi-q*lo=hi%lo:=by rw[Int.mul_comm];omega
 have p1:u2≤q*u2:=by
  have:=Int.mul_le_mul_of_nonneg_right q1 h.u2n;omega
 have p2:v2≤q*v2:=by
  have:=Int.mul_le_mul_of_nonneg_right q1 (show 0≤v2 by have:=h.v2n;omega);omega
 have p3:(q-1)*u2≤(q-1)*v2:=Int.mul_le_mul_of_nonneg_left h.le2 (by omega)
 have p3':q*u2-u2≤q*v2-v2:=by
  rw[Int.sub_mul,Int.sub_mul,Int.one_mul,Int.one_mul]at p3;exact p3
 have:=h.u1n;have:=h.v1n;have:=h.u2n;have:=h.v2n;have:=h.le2;have:=h.le12;have:=h.one
 refine⟨?_,?_,?_,by omega,by omega,by omega,by omega,by omega,by omega,by omega,fun _=>by omega,by omega,by omega⟩
 ·rw[h.elo,tw_not];grind
 ·rw[tw_not]
  have:=h.ehi;have:=h.elo
  grind
 ·rw[tw_not,←h.det];grind
theorem Sim.bounds{A B hi lo u1 v1 u2 v2:Int}{t:Bool}(h:Sim A B hi lo u1 v1 u2 v2 t)(hl:v2≤lo)(hBA:B≤A):
 u1+hi/lo*u2≤A∧v1+hi/lo*v2≤A∧0≤hi/lo*u2∧0≤hi/lo*v2∧0≤hi/lo∧hi/lo*lo≤hi∧v1+v2≤A∧0≤hi/lo*lo:=by
 have l0:0<lo:=by have:=h.v2n;omega
 have n:=h.next hl
 have q0:0≤hi/lo:=Int.ediv_nonneg (by have:=h.lohi;omega) (by omega)
 have sA:=n.sumA
 have sB:=n.sumB
 have lon:=n.lon
 have q3:0≤hi/lo*u2:=Int.mul_nonneg q0 h.u2n
 have q4:0≤hi/lo*v2:=Int.mul_nonneg q0 (by have:=h.v2n;omega)
 have q5:0≤hi/lo*lo:=Int.mul_nonneg q0 (by omega)
 have:=h.u1n;have:=h.v1n;have:=h.u2n;have:=h.v2n
 generalize hi/lo=q at*
 have a1:v1+q*v2≤(v1+q*v2)*lo:=by
  have:=Int.mul_le_mul_of_nonneg_left (show 1≤lo by omega) (show 0≤v1+q*v2 by omega);omega
 have a2:u1+q*u2≤(u1+q*u2)*lo:=by
  have:=Int.mul_le_mul_of_nonneg_left (show 1≤lo by omega) (show 0≤u1+q*u2 by omega);omega
 have a3:0≤v2*(hi-q*lo):=Int.mul_nonneg (by omega) lon
 have a4:0≤u2*(hi-q*lo):=Int.mul_nonneg (by omega) lon
 have s2:=h.sumA
 have a5:v2≤v2*hi:=by
  have:=Int.mul_le_mul_of_nonneg_left (show 1≤hi by have:=h.lohi;omega) (show 0≤v2 by omega);omega
 have a6:v1≤v1*lo:=by
  have:=Int.mul_le_mul_of_nonneg_left (show 1≤lo by omega) (show 0≤v1 by omega);omega
 exact⟨by omega,by omega,q3,q4,q0,by omega,by omega,q5⟩
structure Steps(a b u0 v0 u1 v1:Int)(t:Bool)(R1 R2:Int):Prop where
 e1:R1= -(tw t*(u0*a-v0*b))
 e2:R2=tw t*(u1*a-v1*b)
 n2:0≤R2
 lt:R2<R1
 sumA:v1*R1+v0*R2=a
 sumB:u1*R1+u0*R2=b
 less:v0≠0→R2<b
 le:R1≤a
theorem Sim.certain{A B hi lo u1 v1 u2 v2 a b D E:Int}{t:Bool}(h:Sim A B hi lo u1 v1 u2 v2 t)(hl:v2≤lo)(hg:v1+v2≤hi-lo)
 (hD:0<D) (hA:A=a*D/E) (hB:B=b*D/E) (hE:0<E):
 Steps a b u1 v1 u2 v2 (!t) (tw t*(u1*a-v1*b)) (-(tw t*(u2*a-v2*b))):=by
 have ea:=Int.mul_ediv_add_emod (a*D) E
 have eb:=Int.mul_ediv_add_emod (b*D) E
 have a0:0≤a*D%E:=Int.emod_nonneg _ (by omega)
 have a1:a*D%E<E:=Int.emod_lt_of_pos _ hE
 have b0:0≤b*D%E:=Int.emod_nonneg _ (by omega)
 have b1:b*D%E<E:=Int.emod_lt_of_pos _ hE
 rw[←hA]at ea
 rw[←hB]at eb
 generalize a*D%E=α at*
 generalize b*D%E=β at*
 have f2:D*(-(tw t*(u2*a-v2*b)))=E*lo-tw t*(u2*α-v2*β):=by
  have:α=a*D-E*A:=by omega
  have:β=b*D-E*B:=by omega
  rw[h.elo];grind
 have f12:D*(tw t*(u1*a-v1*b))-D*(-(tw t*(u2*a-v2*b)))=E*(hi-lo)+tw t*((u1+u2)*α-(v1+v2)*β):=by
  have:α=a*D-E*A:=by omega
  have:β=b*D-E*B:=by omega
  rw[h.elo,h.ehi];grind
 have:=h.u1n;have:=h.v1n;have:=h.u2n;have:=h.v2n
 have k1:E*v2≤E*lo:=Int.mul_le_mul_of_nonneg_left hl (by omega)
 have k2:E*(v1+v2)≤E*(hi-lo):=Int.mul_le_mul_of_nonneg_left hg (by omega)
 have k3:u2*α≤v2*E:=Int.le_trans (Int.mul_le_mul_of_nonneg_left (Int.le_of_lt a1) h.u2n) (Int.mul_le_mul_of_nonneg_right h.le2 (by omega))
 have k4:v2*β≤v2*E:=Int.mul_le_mul_of_nonneg_left (Int.le_of_lt b1) (by omega)
 have k5:(v1+v2)*β<(v1+v2)*E:=Int.mul_lt_mul_of_pos_left b1 (by omega)
 have k6:(u1+u2)*α<(v1+v2)*E:=Int.lt_of_le_of_lt (Int.mul_le_mul_of_nonneg_right h.le12 a0) (Int.mul_lt_mul_of_pos_left a1 (by omega))
 have k7:0≤u2*α:=Int.mul_nonneg (by omega) a0
 have k8:0≤v2*β:=Int.mul_nonneg (by omega) b0
 have k9:0≤(u1+u2)*α:=Int.mul_nonneg (by omega) a0
 have k10:0≤(v1+v2)*β:=Int.mul_nonneg (by omega) b0
 rw[Int.mul_comm E v2]at k1
 rw[Int.mul_comm E (v1+v2)]at k2
 have g2:0≤D*(-(tw t*(u2*a-v2*b))):=by
  rw[f2];cases t<;>simp only[tw]<;>simp<;>omega
 have g12:0<D*(tw t*(u1*a-v1*b))-D*(-(tw t*(u2*a-v2*b))):=by
  rw[f12];cases t<;>simp only[tw]<;>simp<;>omega
 have r2:0≤ -(tw t*(u2*a-v2*b)):=by
  apply Classical.byContradiction
  intro hh
  have:=Int.mul_lt_mul_of_pos_left (show-(tw t*(u2*a-v2*b))<0 by omega) hD
  omega
 have r12: -(tw t*(u2*a-v2*b))<tw t*(u1*a-v1*b):=by
  apply Classical.byContradiction
  intro hh
  have:=Int.mul_le_mul_of_nonneg_left (show tw t*(u1*a-v1*b)≤ -(tw t*(u2*a-v2*b))by omega) (Int.le_of_lt hD)
  omega
 have sA:v2*(tw t*(u1*a-v1*b))+v1*(-(tw t*(u2*a-v2*b)))=a:=by
  have e:v2*(tw t*(u1*a-v1*b))+v1*(-(tw t*(u2*a-v2*b)))=tw t*(u1*v2-u2*v1)*a:=by grind
  rw[e,h.det,tw_sq,Int.one_mul]
 have sB:u2*(tw t*(u1*a-v1*b))+u1*(-(tw t*(u2*a-v2*b)))=b:=by
  have e:u2*(tw t*(u1*a-v1*b))+u1*(-(tw t*(u2*a-v2*b)))=tw t*(u1*v2-u2*v1)*b:=by grind
  rw[e,h.det,tw_sq,Int.one_mul]
 have d1:tw t*(u1*a-v1*b)= -(tw (!t)*(u1*a-v1*b)):=by rw[tw_not];grind
 have d2: -(tw t*(u2*a-v2*b))=tw (!t)*(u2*a-v2*b):=by rw[tw_not];grind
 refine⟨d1,d2,r2,r12,sA,sB,?_,?_⟩
 ·intro hv
  have hu:=h.pos hv
  clear d1 d2 f2 f12 g2 g12 sA
  generalize tw t*(u1*a-v1*b)=R1 at*
  generalize-(tw t*(u2*a-v2*b))=R2 at*
  have p1:=Int.mul_le_mul_of_nonneg_right hu (show 0≤R1 by omega)
  have p2:=Int.mul_nonneg h.u1n r2
  omega
 ·clear d1 d2 f2 f12 g2 g12 sB
  generalize tw t*(u1*a-v1*b)=R1 at*
  generalize-(tw t*(u2*a-v2*b))=R2 at*
  have p1:=Int.mul_le_mul_of_nonneg_right h.v2n (show 0≤R1 by omega)
  have p2:=Int.mul_nonneg h.v1n r2
  omega
theorem Steps.gcd{a b u0 v0 u1 v1 R1 R2:Int}{t:Bool}(h:Steps a b u0 v0 u1 v1 t R1 R2):Int.gcd R1 R2=Int.gcd a b:=by
 apply Nat.dvd_antisymm
 ·apply Int.dvd_gcd
  ·rw[←h.sumA]
   exact Int.dvd_add (Int.dvd_trans (Int.gcd_dvd_left ..) (Int.dvd_mul_left ..)) (Int.dvd_trans (Int.gcd_dvd_right ..) (Int.dvd_mul_left ..))
  ·rw[←h.sumB]
   exact Int.dvd_add (Int.dvd_trans (Int.gcd_dvd_left ..) (Int.dvd_mul_left ..)) (Int.dvd_trans (Int.gcd_dvd_right ..) (Int.dvd_mul_left ..))
 ·have k1: ∀p q:Int,((Int.gcd a b:Nat):Int)∣p*a-q*b:=fun p q=>Int.dvd_sub (Int.dvd_trans (Int.gcd_dvd_left ..) (Int.dvd_mul_left ..)) (Int.dvd_trans (Int.gcd_dvd_right ..) (Int.dvd_mul_left ..))
  apply Int.dvd_gcd
  ·rw[h.e1]
   exact Int.dvd_neg.2 (Int.dvd_trans (k1 _ _) (Int.dvd_mul_left ..))
  ·rw[h.e2]
   exact Int.dvd_trans (k1 _ _) (Int.dvd_mul_left ..)
end Go.Proofs.YtedhbbjlbgpafaaGreatDoor
namespace Go.Proofs.YtedhbbjlbgpafaaGreatDoor
open Go.RowKit Go.Shelf
attribute [local go_sem] eqNil neqNil
theorem nv_topw{L:List Int}(h:Wd L)(m:Nat)(hl:L.length=m+1):nv L/pw^m=gd L m:=by
 have e:=nv_take_all L m
 rw[List.take_of_length_le (by omega)]at e
 have h2:=nv_lt (Wd_take h m)
 have h3:=nv_nonneg (Wd_take h m)
 rw[List.length_take,show min m L.length=m by omega]at h2
 rw[e,Int.add_mul_ediv_left _ _ (by have:=show(0:Int)<pw^m from Int.pow_pos (by decide);omega),Int.ediv_eq_zero_of_lt h3 h2,Int.zero_add]
theorem wd_hw{zs:List Int}(hwd:Wd zs)(u:Nat)(hu:u≤63)(n:Nat):Wd ((List.range n).map (hw zs u)):=by
 intro z hz
 obtain⟨j,_,rfl⟩:=List.mem_map.1 hz
 exact hw_word hwd u hu j
theorem gd_hw(zs:List Int)(u n j:Nat)(h:j<n):gd ((List.range n).map (hw zs u)) j=hw zs u j:=by
 unfold gd
 simp[h]
theorem top_same{zs:List Int}(hwd:Wd zs)(u:Nat)(hu:u≤63)(m:Nat)(hl:zs.length=m+1)(h:nv zs*2^u<pw^(m+1)):nv zs*2^u/pw^m=hw zs u m:=by
 have hp:=nv_hw_part zs u hu zs.length
 rw[if_neg (by omega),List.take_length,hl]at hp
 have hW:=wd_hw hwd u hu (m+1)
 have h0:=nv_nonneg hW
 obtain⟨g0,g1⟩:=gd_bounds hwd (m+1-1)
 have hq:0≤gd zs (m+1-1)/2^(64-u):=Int.ediv_nonneg g0 (Int.le_of_lt (p2pos _))
 generalize gd zs (m+1-1)/2^(64-u)=q at*
 have hz:q=0:=by
  apply Classical.byContradiction
  intro hh
  have:=Int.mul_le_mul_of_nonneg_left (show 1≤q by omega) (show(0:Int)≤pw^(m+1)from Int.le_of_lt (Int.pow_pos (by decide)))
  omega
 rw[hz,Int.mul_zero,Int.add_zero]at hp
 rw[←hp,nv_topw hW m (by simp),gd_hw _ _ _ _ (by omega)]
theorem top_more{zs:List Int}(hwd:Wd zs)(u:Nat)(hu:u≤63)(m:Nat)(hl:zs.length=m)(hm:0<m):nv zs*2^u/pw^m=gd zs (m-1)/2^(64-u):=by
 have hp:=nv_hw_part zs u hu zs.length
 rw[if_neg (by omega),List.take_length,hl]at hp
 have hW:=wd_hw hwd u hu m
 have h0:=nv_nonneg hW
 have h1:=nv_lt hW
 rw[List.length_map,List.length_range]at h1
 rw[←hp,Int.add_mul_ediv_left _ _ (by have:=show(0:Int)<pw^m from Int.pow_pos (by decide);omega),Int.ediv_eq_zero_of_lt h0 h1,Int.zero_add]
theorem top_none{zs:List Int}(hwd:Wd zs)(u:Nat)(hu:u≤63)(m:Nat)(hl:zs.length+1≤m):nv zs*2^u/pw^m=0:=by
 have h0:=nv_nonneg hwd
 have h1:=nv_lt hwd
 have hp:(2:Int)^u<pw:=by
  have e64:(18446744073709551616:Int)=2^(64-u)*2^u:=by rw[←Int.pow_add,show 64-u+u=64 by omega];rfl
  have:(2:Int)≤2^(64-u):=by
   obtain⟨k,hk⟩: ∃k,64-u=k+1:=⟨63-u,by omega⟩
   rw[hk,Int.pow_succ];have:=p2pos k;omega
  have:=Int.mul_le_mul_of_nonneg_right this (Int.le_of_lt (p2pos u))
  have:=p2pos u
  rw[show pw=18446744073709551616 from rfl,e64];omega
 have h2:nv zs*2^u<pw^(zs.length+1):=by
  rw[Int.pow_succ]
  have a:=Int.mul_le_mul_of_nonneg_left (Int.le_of_lt hp) h0
  have b:=Int.mul_lt_mul_of_pos_right h1 (show(0:Int)<pw by decide)
  omega
 have h3:=pow_mono hl
 exact Int.ediv_eq_zero_of_lt (Int.mul_nonneg h0 (Int.le_of_lt (p2pos u))) (by omega)
theorem top_head{w:World}{b off cap:Nat}{zs:List Int}{n:Int}(h:Ns w b off cap zs n)(m:Nat)(hl:zs.length=m+1):n*2^(64-blen (gd zs m))/pw^m=hd zs 0∧n*2^(64-blen (gd zs m))<pw^(m+1):=by
 obtain⟨t0,t1⟩:=gd_bounds h.wd m
 have htop:=h.top
 rw[hl,show m+1-1=m from rfl]at htop
 obtain⟨s1,s2,s3⟩:=blen_spec (show 0<gd zs m by omega)
 have hbl:=blen_le64 t1
 have hp:=nv_hw (zs:=zs) (64-blen (gd zs m)) (by omega) h.pos (by
  rw[hl,show m+1-1=m from rfl,show 64-(64-blen (gd zs m))=blen (gd zs m)by omega]
  exact Int.ediv_eq_zero_of_lt t0 s2)
 have hW:=wd_hw h.wd (64-blen (gd zs m)) (by omega) (m+1)
 rw[hl,h.val]at hp
 refine⟨?_,?_⟩
 ·rw[←hp,nv_topw hW m (by simp),gd_hw _ _ _ _ (by omega)]
  unfold hd headw
  rw[if_pos (by omega),hl]
  rfl
 ·rw[←hp]
  have:=nv_lt hW
  simpa using this
end Go.Proofs.YtedhbbjlbgpafaaGreatDoor
namespace Go.Proofs.YtedhbbjlbgpafaaGreatDoor
open Go.RowKit Go.Shelf
attribute [local go_sem] eqNil neqNil
def SimPost(w:World)(a b:Int)(e:Ending)(w':World):Prop:=
 ∃(u0 u1 v0 v1:Int) (t:Bool),e=.returned (.agg #[.int .u64 u0,.int .u64 u1,.int .u64 v0,.int .u64 v1,.bool t])∧Below w.heap.size w w'∧
  (0≤u0∧u0<18446744073709551616∧0≤u1∧u1<18446744073709551616∧0≤v0∧v0<18446744073709551616∧0≤v1∧v1<18446744073709551616)∧(v0≠0→ ∃R1 R2,Steps a b u0 v0 u1 v1 t R1 R2)
def SB(w:World)(g:Nat)(A:Array Value):Prop:=w.heap[g]?=some (.cells A 246 (0,0))
theorem SB.cell{w:World}{g:Nat}{A:Array Value}(h:SB w g A)(i:Nat):w.cell? ⟨g,i,none⟩=A[i]?:=cell_of_row w g i _ 246 (0,0) h
theorem SB.free{w:World}{g:Nat}{A:Array Value}(h:SB w g A)(i:Nat):w.frozen? ⟨g,i,none⟩=false:=frozen_of_row w g i _ 246 h
theorem SB.lt{w:World}{g:Nat}{A:Array Value}(h:SB w g A):g<w.heap.size:=lt_of_block h
theorem SB.below{w w':World}{g B:Nat}{A:Array Value}(h:SB w g A)(hg:g<B)(hw:Below B w w'):SB w' g A:=(hw.block g hg).trans h
theorem SB.new(w:World)(A:Array Value):SB (w.alloc (.cells A 246)) w.heap.size A:=by
 show(w.heap.push _)[w.heap.size]?=_
 exact Array.getElem?_push_size
theorem SB.set{w:World}{g:Nat}{A:Array Value}(h:SB w g A)(i:Nat)(v:Value):SB (w.setCell ⟨g,i,none⟩ v) g (A.setIfInBounds i v):=by
 unfold SB
 rw[heap_setCell_same w g i _ 246 _ h]
theorem SB.drw{w w':World}{g:Nat}{A:Array Value}(h:SB w g A)(hd:Drw w w'):SB w' g A:=by unfold SB;rw[hd.heap];exact h
structure SimAt(x y A B hi lo u1 v1 u2 v2 u0 v0:Int)(t:Bool):Prop where
 sim:Sim A B hi lo u1 v1 u2 v2 t
 A1:A<18446744073709551616
 BA:B≤A
 u0b:0≤u0∧u0<18446744073709551616
 v0b:0≤v0∧v0<18446744073709551616
 lt:u1<18446744073709551616∧v1<18446744073709551616∧u2<18446744073709551616∧v2<18446744073709551616
 res:v0≠0→ ∃R1 R2,Steps x y u0 v0 u1 v1 t R1 R2
theorem SimAt.small{x y A B hi lo u1 v1 u2 v2 u0 v0:Int}{t:Bool}(h:SimAt x y A B hi lo u1 v1 u2 v2 u0 v0 t):hi<18446744073709551616:=by
 have hs:=h.sim
 have:=hs.sumA
 have h1:=Int.mul_nonneg hs.v1n hs.lon
 have h2:=Int.mul_le_mul_of_nonneg_right hs.v2n (show 0≤hi by have:=hs.lon;have:=hs.lohi;omega)
 have:=h.A1
 omega
theorem SimAt.next{x y A B hi lo u1 v1 u2 v2 u0 v0 D E:Int}{t:Bool}(h:SimAt x y A B hi lo u1 v1 u2 v2 u0 v0 t)(hl:v2≤lo)(hg:v1+v2≤hi-lo)
 (hD:0<D) (hE:0<E) (hA:A=x*D/E) (hB:B=y*D/E):SimAt x y A B lo (hi-hi/lo*lo) u2 v2 (u1+hi/lo*u2) (v1+hi/lo*v2) u1 v1 (!t):=by
 obtain⟨b1,b2,b3,b4,b5,b6,b7,b8⟩:=h.sim.bounds hl h.BA
 have hA1:=h.A1
 exact⟨h.sim.next hl,hA1,h.BA,⟨h.sim.u1n,h.lt.1⟩,⟨h.sim.v1n,h.lt.2.1⟩,⟨h.lt.2.2.1,h.lt.2.2.2,by omega,by omega⟩,fun _=>⟨_,_,h.sim.certain hl hg hD hA hB hE⟩⟩
theorem SB.other{w:World}{g g2:Nat}{A:Array Value}(h:SB w g A)(hlt:g<g2)(i:Nat)(v:Value):SB (w.setCell ⟨g2,i,none⟩ v) g A:=
 h.below hlt (below_set (Below.refl g2 w) (Nat.le_refl _) i v)
theorem below_st{B g:Nat}{w w':World}(h:Below B w w')(hg:B≤g)(i:Nat)(v:Value):Below B w (w'.setCell ⟨g,i,none⟩ v):=below_set h hg i v
theorem simulate_any(w:World)(b off cap:Nat)(za:List Int)(x:Int)(b2 off2 cap2:Nat)(zb:List Int)(y:Int)(ha:Ns w b off cap za x)(hb:Ns w b2 off2 cap2 zb y)(hx:x<big)(hy:y≤x)(h2:2≤zb.length):
 Calls Tryz.prog 246 #[.slice (some ⟨b,off,none⟩) za.length cap,.slice (some ⟨b2,off2,none⟩) zb.length cap2] w (SimPost w x y):=by
 have hl:=ha.len hx
 have hl2:=hb.len (show y<big by omega)
 have hcap:=ha.cap
 have hcap2:=hb.cap
 have hpos:=ha.pos
 have hkl:zb.length≤za.length:=by
  apply Classical.byContradiction
  intro hh
  have:=ha.lt_of_len hb (by omega)
  omega
 have HLT:=Lib.hid ha.lt
 have HLT2:=Lib.hid hb.lt
 have H:=Lib.hid ha
 have H2:=Lib.hid hb
 have HX:=Lib.hid (And.intro hx hy)
 clear ha hb hx hy
 obtain⟨l,hl'⟩: ∃l,za.length=l+1:=⟨za.length-1,by omega⟩
 obtain⟨k,hk'⟩: ∃k,zb.length=k+2:=⟨zb.length-2,by omega⟩
 have HL:=Lib.hid hl'
 have HK:=Lib.hid hk'
 rw[hl']at hl hcap hpos hkl⊢
 rw[hk']at hl2 hcap2 hkl⊢
 clear hl' hk' h2
 have HHd:Hid (∀W,Below w.heap.size w W→Calls Tryz.prog 215 #[.slice (some ⟨b,off,none⟩) (l+1) cap,.int .i64 0] W (DrewPost W (.int .u64 (hd za 0)))):=Lib.hid fun W hW=>by
  have h:=head_hd W b off cap za x (H.out.below hW) HX.out.1 0 (by omega)
  rw[HL.out]at h
  exact h
 go_enter Tryz.func246,Tryz.ntmps246
 go_wp2_with fail
 generalize hW0:w.alloc _=W0
 have hB0:Below w.heap.size w W0:=by rw[←hW0];exact(Below.refl _ _).alloc (Nat.le_refl _) _
 have hBx:SB W0 w.heap.size #[.int .u64 0,.int .u64 0,.int .u64 0,.int .u64 0,.bool false]:=by rw[←hW0];exact SB.new _ _
 have hsz:w.heap.size<W0.heap.size:=hBx.lt
 have HSZ:=Lib.hid hsz
 clear hsz
 have hBe:=Lib.hid hB0
 have HBx:=Lib.hid hBx
 refine(HHd.out _ hB0).mono ?_
 clear hB0 hBx hW0 HHd
 rintro e W1 ⟨rfl,hd1⟩
 have HD1:=Lib.hid hd1
 have cT:=(hd1.cell _).trans ((hBe.out.cell (p:=⟨b,off+l,none⟩) HLT.out).trans (H.out.row l (by rw[HL.out];omega)))
 obtain⟨t0,t1⟩:=gd_bounds H.out.wd l
 have htop:=H.out.top
 rw[HL.out,show l+1-1=l from rfl]at htop
 obtain⟨s1,s2,s3⟩:=blen_spec (show 0<gd za l by omega)
 have hbl:=blen_le64 t1
 have HTH:=Lib.hid (top_head H.out l HL.out)
 have HLd:Hid (∀W,Calls Tryz.prog 214 #[.int .u64 (gd za l)] W fun e w'=>e=.returned (.int .i64 (64-(blen (gd za l):Int)))∧W=w'):=Lib.hid fun W=>lead_any _ W t0 t1
 obtain⟨bl,hB⟩: ∃bl,blen (gd za l)=bl:=⟨_,rfl⟩
 rw[hB]at s3 hbl HTH HLd
 clear hB s1 s2 htop hd1
 have i1:((l:Int)+1-1)=l:=by omega
 obtain⟨d,hdk⟩: ∃d,l=k+1+d:=⟨l-(k+1),by omega⟩
 subst hdk
 have hy0:0≤y:=Int.le_of_lt H2.out.npos
 have HB9:Hid (0≤y*2^(64-bl)/pw^(k+1+d)∧y*2^(64-bl)/pw^(k+1+d)≤hd za 0∧hd za 0<18446744073709551616):=Lib.hid (by
  have hp:(0:Int)<pw^(k+1+d):=Int.pow_pos (by decide)
  have hle:=Int.mul_le_mul_of_nonneg_right HX.out.2 (Int.le_of_lt (p2pos (64-bl)))
  refine⟨Int.ediv_nonneg (Int.mul_nonneg hy0 (Int.le_of_lt (p2pos _))) (Int.le_of_lt hp),?_,?_⟩
  ·rw[←HTH.out.1];exact Int.ediv_le_ediv hp hle
  ·rw[←HTH.out.1,Int.ediv_lt_iff_lt_mul hp]
   have h7:=HTH.out.2
   rw[Int.pow_succ]at h7
   rw[Int.mul_comm 18446744073709551616]
   exact h7)
 clear hy0
 rcases d with _|_|d
 case' zero=>
  have hlow:bits BinOp.or IntKind.u64 (IntKind.u64.wrap (gd zb (k+1)*2^(64-bl))) (gd zb k/2^(64-(64-bl)))=y*2^(64-bl)/pw^(k+1+0):=by
   obtain⟨a0,a1⟩:=gd_bounds H2.out.wd (k+1)
   obtain⟨b0,b1⟩:=gd_bounds H2.out.wd k
   have h9:=top_same H2.out.wd (64-bl) (by omega) (k+1) HK.out (by
    have:=Int.mul_le_mul_of_nonneg_right HX.out.2 (Int.le_of_lt (p2pos (64-bl)))
    have h8:x*2^(64-bl)<pw^(k+1+1):=HTH.out.2
    rw[H2.out.val];omega)
   rw[H2.out.val,hw_succ]at h9
   rw[show k+1+0=k+1 from rfl,h9]
   exact or_high _ _ (64-bl) (by omega) (Int.ediv_nonneg b0 (Int.le_of_lt (p2pos _))) (div_lt_p2 _ _ (by omega) b1) a0 a1
  have HLOW:=Lib.hid hlow
  clear hlow
  have c0:=((HD1.out.cell _).trans ((hBe.out.cell (p:=⟨b2,off2+k,none⟩) HLT2.out).trans (H2.out.row k (by rw[HK.out];omega))))
  have c1:=((HD1.out.cell _).trans ((hBe.out.cell (p:=⟨b2,off2+(k+1),none⟩) HLT2.out).trans (H2.out.row (k+1) (by rw[HK.out];omega))))
  obtain⟨a0,a1⟩:=gd_bounds H2.out.wd (k+1)
  obtain⟨b0,b1⟩:=gd_bounds H2.out.wd k
  go_wp2_with (go_at_call 214;refine(HLd.out _).mono ?_;rintro en w' ⟨rfl,rfl⟩)
  go_quiet (fail)
  generalize hq:W1.drewN _=W2
  have HDQ:Hid (Drw W1 W2):=Lib.hid ⟨_,hq.symm⟩
  clear hq
  go_wp2_with fail
  rw[HLOW.out]
  have hN:=SB.new W2 #[.int .u64 0,.int .u64 1,.int .u64 0,.int .u64 0,.bool true]
  have hN2:Below W0.heap.size W0 (W2.alloc (.cells #[.int .u64 0,.int .u64 1,.int .u64 0,.int .u64 0,.bool true] 246)):=((HD1.out.trans HDQ.out).below _).alloc (Nat.le_of_eq (congrArg Array.size (HD1.out.trans HDQ.out).heap).symm) _
  have hS:W2.heap.size=W0.heap.size:=congrArg Array.size (HD1.out.trans HDQ.out).heap
  generalize W2.alloc _=W3 at hN hN2⊢
  rw[hS]at hN⊢
  clear HDQ hS a0 a1 b0 b1 c0 c1
 case' succ.zero=>
  have hlow:gd zb (k+1)/2^(64-(64-bl))=y*2^(64-bl)/pw^(k+1+(0+1)):=by
   have h9:=top_more H2.out.wd (64-bl) (by omega) (k+2) HK.out (by omega)
   rw[H2.out.val]at h9
   exact h9.symm
  have HLOW:=Lib.hid hlow
  clear hlow
  have c1:=((HD1.out.cell _).trans ((hBe.out.cell (p:=⟨b2,off2+(k+1),none⟩) HLT2.out).trans (H2.out.row (k+1) (by rw[HK.out];omega))))
  obtain⟨a0,a1⟩:=gd_bounds H2.out.wd (k+1)
  go_wp2_with (go_at_call 214;refine(HLd.out _).mono ?_;rintro en w' ⟨rfl,rfl⟩)
  rw[HLOW.out]
  have hN:=SB.new W1 #[.int .u64 0,.int .u64 1,.int .u64 0,.int .u64 0,.bool true]
  have hN2:Below W0.heap.size W0 (W1.alloc (.cells #[.int .u64 0,.int .u64 1,.int .u64 0,.int .u64 0,.bool true] 246)):=(HD1.out.below _).alloc (Nat.le_of_eq (congrArg Array.size HD1.out.heap).symm) _
  have hS:W1.heap.size=W0.heap.size:=congrArg Array.size HD1.out.heap
  generalize W1.alloc _=W3 at hN hN2⊢
  rw[hS]at hN⊢
  clear hS a0 a1 c1
 case' succ.succ=>
  have hlow:0=y*2^(64-bl)/pw^(k+1+(d+1+1)):=by
   have h9:=top_none H2.out.wd (64-bl) (by omega) (k+1+(d+1+1)) (by rw[HK.out];omega)
   rw[H2.out.val]at h9
   exact h9.symm
  have HLOW:=Lib.hid hlow
  clear hlow
  go_wp2_with (go_at_call 214;refine(HLd.out _).mono ?_;rintro en w' ⟨rfl,rfl⟩)
  have hN:=SB.new W1 #[.int .u64 0,.int .u64 1,.int .u64 0,.int .u64 0,.bool true]
  have hN2:Below W0.heap.size W0 (W1.alloc (.cells #[.int .u64 0,.int .u64 1,.int .u64 0,.int .u64 0,.bool true] 246)):=(HD1.out.below _).alloc (Nat.le_of_eq (congrArg Array.size HD1.out.heap).symm) _
  have hS:W1.heap.size=W0.heap.size:=congrArg Array.size HD1.out.heap
  generalize W1.alloc _=W3 at hN hN2⊢
  rw[hS]at hN⊢
  clear hS
 case' zero=>have HS:Hid (Sim (hd za 0) (y*2^(64-bl)/pw^(k+1+0)) (hd za 0) (y*2^(64-bl)/pw^(k+1+0)) 1 0 0 1 true):=Lib.hid (Sim.start HB9.out.1 HB9.out.2.1)
 case' succ.zero=>have HS:Hid (Sim (hd za 0) (y*2^(64-bl)/pw^(k+1+(0+1))) (hd za 0) (y*2^(64-bl)/pw^(k+1+(0+1))) 1 0 0 1 true):=Lib.hid (Sim.start HB9.out.1 HB9.out.2.1)
 case' succ.succ=>have HS:Hid (Sim (hd za 0) (y*2^(64-bl)/pw^(k+1+(d+1+1))) (hd za 0) 0 1 0 0 1 true):=Lib.hid (by have h:=Sim.start HB9.out.1 HB9.out.2.1;rw[←HLOW.out]at h⊢;exact h)
 all_goals (
  first|(rename_i hz1 hz2 K0 hK0;clear hz1 hz2)|(rename_i hz1 K0 hK0;clear hz1)
  have hB2:Below w.heap.size w W3:=hBe.out.trans (hN2.mono (Nat.le_of_lt HSZ.out))
  have hR3:SB W3 w.heap.size #[.int .u64 0,.int .u64 0,.int .u64 0,.int .u64 0,.bool false]:=HBx.out.below HSZ.out hN2
  generalize W0.heap.size=gs at*
  have hlt:=HSZ.out
  obtain⟨gr,hgr⟩: ∃gr,w.heap.size=gr:=⟨_,rfl⟩
  have HG:=Lib.hid hgr
  have HIN:=Lib.hid (And.intro hN (And.intro hB2 hR3))
  rw[hgr]at HIN hlt⊢
  have hne1:gr≠gs:=by omega
  have hne2:gs≠gr:=by omega
  have HA:=Lib.hid HB9.out.2.2
  have HE:=Lib.hid HTH.out.1.symm
  clear hN hN2 hB2 hR3 hgr i1 t0 t1 cT
  generalize hBg:y*2^(64-bl)/pw^_=B at HS HB9⊢
  have HBg:=Lib.hid hBg.symm
  clear hBg HTH HLd HLOW HBx hBe HD1 H H2 hpos hcap hl hkl hl2 hcap2
  generalize hd za 0=A at HA HS HE HB9⊢
  go_loopw [5,6,9,10] (fun p q r s wr=> ∃(hi lo u1 v1 u2 v2 u0 v0:Int) (t:Bool),p=.int .u64 hi∧q=.int .u64 lo∧r=.int .u64 u2∧s=.int .u64 v2∧Hid (SimAt x y A B hi lo u1 v1 u2 v2 u0 v0 t)∧
   Hid (Below gr w wr∧SB wr gs #[.int .u64 u0,.int .u64 u1,.int .u64 v0,.int .u64 v1,.bool t]∧SB wr gr #[.int .u64 0,.int .u64 0,.int .u64 0,.int .u64 0,.bool false])) (fun _ q _ _ _=>(intOf q).toNat)
  case atStart=>exact⟨_,_,1,0,_,_,0,0,true,rfl,rfl,rfl,rfl,Lib.hid ⟨HS.out,HA.out,HB9.out.2.1,by omega,by omega,by omega,fun h=>absurd rfl h⟩,Lib.hid ⟨HIN.out.2.1,HIN.out.1,HIN.out.2.2⟩⟩
  case round=>
   obtain⟨hi,lo,u1,v1,u2,v2,u0,v0,t,rfl,rfl,rfl,rfl,hAt,hr⟩:=hrel
   have e0:=hr.out.2.1.cell 0
   have e1:=hr.out.2.1.cell 1
   have e2:=hr.out.2.1.cell 2
   have e3:=hr.out.2.1.cell 3
   have e4:=hr.out.2.1.cell 4
   have f0:=hr.out.2.1.free 0
   have f1:=hr.out.2.1.free 1
   have f2:=hr.out.2.1.free 2
   have f3:=hr.out.2.1.free 3
   have f4:=hr.out.2.1.free 4
   have r0:=hr.out.2.2.cell 0
   have r1:=hr.out.2.2.cell 1
   have r2:=hr.out.2.2.cell 2
   have r3:=hr.out.2.2.cell 3
   have r4:=hr.out.2.2.cell 4
   have k0:=hr.out.2.2.free 0
   have k1:=hr.out.2.2.free 1
   have k2:=hr.out.2.2.free 2
   have k3:=hr.out.2.2.free 3
   have k4:=hr.out.2.2.free 4
   simp only[List.getElem?_toArray,List.getElem?_cons_zero,List.getElem?_cons_succ]at e0 e1 e2 e3 e4 r0 r1 r2 r3 r4
   have hsm:=hAt.out.small
   have hs1:=hAt.out.sim.lon
   have hs2:=hAt.out.sim.lohi
   have hs3:=hAt.out.sim.v2n
   have hs4:=hAt.out.sim.u2n
   have hs5:=hAt.out.sim.v1n
   have hs6:=hAt.out.sim.u1n
   have hs7:=hAt.out.lt
   obtain⟨hs7,hs8,hs9,hs10⟩:=hs7
   by_cases hc1:v2≤lo
   ·obtain⟨b1,b2,b3,b4,b5,b6,b7,b8⟩:=hAt.out.sim.bounds hc1 hAt.out.BA
    have hA1:=HA.out
    by_cases hc2:v1+v2≤hi-lo
    ·have HNX:=Lib.hid (hAt.out.next hc1 hc2 (p2pos (64-bl)) (Int.pow_pos (by decide)) HE.out HBg.out)
     have l0:0<lo:=by omega
     have lz:(lo==0)=false:=by simpa using show lo≠0 by omega
     have hq:hi.tdiv lo=hi/lo:=Int.tdiv_eq_ediv_of_nonneg (by omega)
     have hm0:0≤hi-hi/lo*lo:=HNX.out.sim.lon
     have hm1:hi-hi/lo*lo<lo:=by
      have e:=Int.mul_ediv_add_emod hi lo
      have:=Int.emod_lt_of_pos hi l0
      rw[Int.mul_comm]at e;omega
     have hqhi:hi/lo≤hi:=Int.ediv_le_self _ (by omega)
     generalize hi/lo=q at*
     go_wp2_with fail
     have hF:=((((hr.out.2.1.set 0 (.int .u64 u1)).set 1 (.int .u64 u2)).set 2 (.int .u64 v1)).set 3 (.int .u64 v2)).set 4 (.bool !t)
     have hBF:=below_st (below_st (below_st (below_st (below_st hr.out.1 (Nat.le_of_lt hlt) 0 (.int .u64 u1)) (Nat.le_of_lt hlt) 1 (.int .u64 u2)) (Nat.le_of_lt hlt) 2 (.int .u64 v1)) (Nat.le_of_lt hlt) 3 (.int .u64 v2)) (Nat.le_of_lt hlt) 4 (.bool !t)
     have hRF:=((((hr.out.2.2.other hlt 0 (.int .u64 u1)).other hlt 1 (.int .u64 u2)).other hlt 2 (.int .u64 v1)).other hlt 3 (.int .u64 v2)).other hlt 4 (.bool !t)
     simp only[List.setIfInBounds_toArray,List.set_cons_zero,List.set_cons_succ]at hF
     refine⟨⟨_,_,_,_,_,_,_,_,_,rfl,rfl,rfl,rfl,HNX,Lib.hid ⟨hBF,hF,hRF⟩⟩,?_⟩
     simp only[intOf]
     omega
    ·go_wp2_with fail
     have hF:=((((hr.out.2.2.set 0 (.int .u64 u0)).set 1 (.int .u64 u1)).set 2 (.int .u64 v0)).set 3 (.int .u64 v1)).set 4 (.bool t)
     have hBF:=below_st (below_st (below_st (below_st (below_st hr.out.1 (Nat.le_refl gr) 0 (.int .u64 u0)) (Nat.le_refl gr) 1 (.int .u64 u1)) (Nat.le_refl gr) 2 (.int .u64 v0)) (Nat.le_refl gr) 3 (.int .u64 v1)) (Nat.le_refl gr) 4 (.bool t)
     generalize World.setCell _ _ _=WF at hF hBF⊢
     have z0:=hF.cell 0
     have z1:=hF.cell 1
     have z2:=hF.cell 2
     have z3:=hF.cell 3
     have z4:=hF.cell 4
     simp only[List.setIfInBounds_toArray,List.set_cons_zero,List.set_cons_succ,List.getElem?_toArray,List.getElem?_cons_zero,List.getElem?_cons_succ]at z0 z1 z2 z3 z4
     refine bodyPost_ret (v:=.agg #[.int .u64 u0,.int .u64 u1,.int .u64 v0,.int .u64 v1,.bool t]) (by simp[results,Tryz.results246,go_sem,z0,z1,z2,z3,z4]) rfl ?_
     exact⟨u0,u1,v0,v1,t,rfl,by rw[HG.out];exact hBF,⟨hAt.out.u0b.1,hAt.out.u0b.2,hs6,hs7,hAt.out.v0b.1,hAt.out.v0b.2,hs5,hs8⟩,hAt.out.res⟩
   ·go_wp2_with fail
    have hF:=((((hr.out.2.2.set 0 (.int .u64 u0)).set 1 (.int .u64 u1)).set 2 (.int .u64 v0)).set 3 (.int .u64 v1)).set 4 (.bool t)
    have hBF:=below_st (below_st (below_st (below_st (below_st hr.out.1 (Nat.le_refl gr) 0 (.int .u64 u0)) (Nat.le_refl gr) 1 (.int .u64 u1)) (Nat.le_refl gr) 2 (.int .u64 v0)) (Nat.le_refl gr) 3 (.int .u64 v1)) (Nat.le_refl gr) 4 (.bool t)
    generalize World.setCell _ _ _=WF at hF hBF⊢
    have z0:=hF.cell 0
    have z1:=hF.cell 1
    have z2:=hF.cell 2
    have z3:=hF.cell 3
    have z4:=hF.cell 4
    simp only[List.setIfInBounds_toArray,List.set_cons_zero,List.set_cons_succ,List.getElem?_toArray,List.getElem?_cons_zero,List.getElem?_cons_succ]at z0 z1 z2 z3 z4
    refine bodyPost_ret (v:=.agg #[.int .u64 u0,.int .u64 u1,.int .u64 v0,.int .u64 v1,.bool t]) (by simp[results,Tryz.results246,go_sem,z0,z1,z2,z3,z4]) rfl ?_
    exact⟨u0,u1,v0,v1,t,rfl,by rw[HG.out];exact hBF,⟨hAt.out.u0b.1,hAt.out.u0b.2,hs6,hs7,hAt.out.v0b.1,hAt.out.v0b.2,hs5,hs8⟩,hAt.out.res⟩)
end Go.Proofs.YtedhbbjlbgpafaaGreatDoor
namespace Go.Proofs.YtedhbbjlbgpafaaGreatDoor
open Go.RowKit Go.Shelf
attribute [local go_sem] eqNil neqNil
def TwoNt(w:World)(m n:Int)(e:Ending)(w':World):Prop:= ∃va vb,e=.returned (.tuple #[va,vb])∧Nt w' va m∧Nt w' vb n∧Below w.heap.size w w'
theorem apply_any(w:World)(b off cap:Nat)(za:List Int)(x:Int)(b2 off2 cap2:Nat)(zb:List Int)(y:Int)(ha:Ns w b off cap za x)(hb:Ns w b2 off2 cap2 zb y)(hx:x<big)(hy:y<big)
 (u0 u1 v0 v1:Int) (t:Bool) (hu:(0≤u0∧u0<18446744073709551616∧0≤u1∧u1<18446744073709551616∧0≤v0∧v0<18446744073709551616∧0≤v1∧v1<18446744073709551616)) (R1 R2:Int) (hS:Steps x y u0 v0 u1 v1 t R1 R2):
 Calls Tryz.prog 247 #[.agg #[.int .u64 u0,.int .u64 u1,.int .u64 v0,.int .u64 v1,.bool t],.slice (some ⟨b,off,none⟩) za.length cap,.slice (some ⟨b2,off2,none⟩) zb.length cap2] w (TwoNt w R1 R2):=by
 have H:=Lib.hid ha
 have H2:=Lib.hid hb
 have hcap:=ha.cap
 have hcap2:=hb.cap
 have HU:=Lib.hid hu
 have e1:=hS.e1
 have e2:=hS.e2
 have n1:0≤R1:=by have:=hS.n2;have:=hS.lt;omega
 have n2:=hS.n2
 obtain⟨l,hl'⟩: ∃l,za.length=l:=⟨_,rfl⟩
 obtain⟨k,hk'⟩: ∃k,zb.length=k:=⟨_,rfl⟩
 have HL:=Lib.hid hl'
 have HK:=Lib.hid hk'
 have hl:=ha.len hx
 have hl2:=hb.len hy
 cases t with
 |true=>
  simp only[tw,if_true,Int.one_mul]at e1 e2
  have K1:Hid (∀W,Below w.heap.size w W→Calls Tryz.prog 284 #[.slice (some ⟨b2,off2,none⟩) k cap2,.int .u64 v0,.slice (some ⟨b,off,none⟩) l cap,.int .u64 u0] W (NewNt W R1)):=Lib.hid fun W hW=>by
   have h:=difference_any W b2 off2 cap2 zb y b off cap za x (H2.out.below hW) (H.out.below hW) hy hx v0 u0 HU.out.2.2.2.2.1 HU.out.2.2.2.2.2.1 HU.out.1 HU.out.2.1 (by rw[Int.mul_comm x,Int.mul_comm y];omega)
   rw[HL.out,HK.out,show y*v0-x*u0=R1 by rw[Int.mul_comm x,Int.mul_comm y];omega]at h
   exact h
  have K2:Hid (∀W,Below w.heap.size w W→Calls Tryz.prog 284 #[.slice (some ⟨b,off,none⟩) l cap,.int .u64 u1,.slice (some ⟨b2,off2,none⟩) k cap2,.int .u64 v1] W (NewNt W R2)):=Lib.hid fun W hW=>by
   have h:=difference_any W b off cap za x b2 off2 cap2 zb y (H.out.below hW) (H2.out.below hW) hx hy u1 v1 HU.out.2.2.1 HU.out.2.2.2.1 HU.out.2.2.2.2.2.2.1 HU.out.2.2.2.2.2.2.2 (by rw[Int.mul_comm x,Int.mul_comm y];omega)
   rw[HL.out,HK.out,show x*u1-y*v1=R2 by rw[Int.mul_comm x,Int.mul_comm y];omega]at h
   exact h
  rw[hl']at hcap hl⊢
  rw[hk']at hcap2 hl2⊢
  clear hl' hk' e1 e2 n1 n2 hS hu ha hb hx hy
  go_enter Tryz.func247,Tryz.ntmps247
  go_wp2_with fail
  have hSB:=SB.new w #[.int .u64 u0,.int .u64 u1,.int .u64 v0,.int .u64 v1,.bool true]
  have hB0:Below w.heap.size w (w.alloc (.cells #[.int .u64 u0,.int .u64 u1,.int .u64 v0,.int .u64 v1,.bool true] 246)):=(Below.refl _ _).alloc (Nat.le_refl _) _
  generalize w.alloc _=WB at hSB hB0⊢
  obtain⟨g,hg⟩: ∃g,w.heap.size=g:=⟨_,rfl⟩
  have HG:=Lib.hid hg
  rw[hg]at hSB hB0 K1 K2⊢
  clear hg
  have d0:WB.cell? ⟨g,0,none⟩=some (.int .u64 u0):=hSB.cell 0
  have d1:WB.cell? ⟨g,1,none⟩=some (.int .u64 u1):=hSB.cell 1
  have d2:WB.cell? ⟨g,2,none⟩=some (.int .u64 v0):=hSB.cell 2
  have d3:WB.cell? ⟨g,3,none⟩=some (.int .u64 v1):=hSB.cell 3
  have H0:Hid (Below g w WB.drew∧SB WB.drew g #[.int .u64 u0,.int .u64 u1,.int .u64 v0,.int .u64 v1,.bool true]):=Lib.hid ⟨hB0.trans ((Drw.step WB 1).below _),hSB.drw (Drw.step WB 1)⟩
  have step: ∀(W1 W2:World),Hid (Below g w W1∧SB W1 g #[.int .u64 u0,.int .u64 u1,.int .u64 v0,.int .u64 v1,.bool true])→Below W1.heap.size W1 W2→Hid (Below g w W2∧SB W2 g #[.int .u64 u0,.int .u64 u1,.int .u64 v0,.int .u64 v1,.bool true])∧W2.cell? ⟨g,0,none⟩=some (.int .u64 u0)∧W2.cell? ⟨g,1,none⟩=some (.int .u64 u1)∧W2.cell? ⟨g,2,none⟩=some (.int .u64 v0)∧W2.cell? ⟨g,3,none⟩=some (.int .u64 v1):=fun W1 W2 a b=>
   ⟨Lib.hid ⟨a.out.1.trans (b.mono (Nat.le_of_lt a.out.2.lt)),a.out.2.below a.out.2.lt b⟩,(a.out.2.below a.out.2.lt b).cell 0,(a.out.2.below a.out.2.lt b).cell 1,(a.out.2.below a.out.2.lt b).cell 2,(a.out.2.below a.out.2.lt b).cell 3⟩
  have HSt:=Lib.hid step
  clear step hSB hB0
  go_region_held3 (fun w'=>w'.cell? ⟨g,0,none⟩=some (.int .u64 u0)∧w'.cell? ⟨g,1,none⟩=some (.int .u64 u1)∧w'.cell? ⟨g,2,none⟩=some (.int .u64 v0)∧w'.cell? ⟨g,3,none⟩=some (.int .u64 v1)) (first|exact⟨e20,e21,e22,e23⟩|exact⟨e10,e11,e12,e13⟩|exact⟨d0,d1,d2,d3⟩)
   (first
    |(go_at_call 284;(with_reducible refine(K1.out _ H0.out.1).mono ?_);rintro en w3 ⟨v3,rfl,hv,hb⟩;obtain⟨H1,e10,e11,e12,e13⟩:=HSt.out _ _ H0 hb;have V1:=Lib.hid hv;clear hv hb)
    |(go_at_call 284;(with_reducible refine(K2.out _ H1.out.1).mono ?_);rintro en w4 ⟨v4,rfl,hv,hb⟩;obtain⟨H2',e20,e21,e22,e23⟩:=HSt.out _ _ H1 hb;have V2:=Lib.hid (And.intro hv (V1.out.below hb));clear hv hb))
  go_wp2_with fail
  go_ret2
  exact⟨_,_,rfl,V2.out.2,V2.out.1,by rw[HG.out];exact H2'.out.1⟩
 |false=>
  have e1:R1=u0*x-v0*y:=by have:=e1;simp only[tw]at this;simp at this;omega
  have e2:R2=v1*y-u1*x:=by have:=e2;simp only[tw]at this;simp at this;omega
  have K1:Hid (∀W,Below w.heap.size w W→Calls Tryz.prog 284 #[.slice (some ⟨b,off,none⟩) l cap,.int .u64 u0,.slice (some ⟨b2,off2,none⟩) k cap2,.int .u64 v0] W (NewNt W R1)):=Lib.hid fun W hW=>by
   have h:=difference_any W b off cap za x b2 off2 cap2 zb y (H.out.below hW) (H2.out.below hW) hx hy u0 v0 HU.out.1 HU.out.2.1 HU.out.2.2.2.2.1 HU.out.2.2.2.2.2.1 (by rw[Int.mul_comm x,Int.mul_comm y];omega)
   rw[HL.out,HK.out,show x*u0-y*v0=R1 by rw[Int.mul_comm x,Int.mul_comm y];omega]at h
   exact h
  have K2:Hid (∀W,Below w.heap.size w W→Calls Tryz.prog 284 #[.slice (some ⟨b2,off2,none⟩) k cap2,.int .u64 v1,.slice (some ⟨b,off,none⟩) l cap,.int .u64 u1] W (NewNt W R2)):=Lib.hid fun W hW=>by
   have h:=difference_any W b2 off2 cap2 zb y b off cap za x (H2.out.below hW) (H.out.below hW) hy hx v1 u1 HU.out.2.2.2.2.2.2.1 HU.out.2.2.2.2.2.2.2 HU.out.2.2.1 HU.out.2.2.2.1 (by rw[Int.mul_comm x,Int.mul_comm y];omega)
   rw[HL.out,HK.out,show y*v1-x*u1=R2 by rw[Int.mul_comm x,Int.mul_comm y];omega]at h
   exact h
  rw[hl']at hcap hl⊢
  rw[hk']at hcap2 hl2⊢
  clear hl' hk' e1 e2 n1 n2 hS hu ha hb hx hy
  go_enter Tryz.func247,Tryz.ntmps247
  go_wp2_with fail
  have hSB:=SB.new w #[.int .u64 u0,.int .u64 u1,.int .u64 v0,.int .u64 v1,.bool false]
  have hB0:Below w.heap.size w (w.alloc (.cells #[.int .u64 u0,.int .u64 u1,.int .u64 v0,.int .u64 v1,.bool false] 246)):=(Below.refl _ _).alloc (Nat.le_refl _) _
  generalize w.alloc _=WB at hSB hB0⊢
  obtain⟨g,hg⟩: ∃g,w.heap.size=g:=⟨_,rfl⟩
  have HG:=Lib.hid hg
  rw[hg]at hSB hB0 K1 K2⊢
  clear hg
  have d0:WB.cell? ⟨g,0,none⟩=some (.int .u64 u0):=hSB.cell 0
  have d1:WB.cell? ⟨g,1,none⟩=some (.int .u64 u1):=hSB.cell 1
  have d2:WB.cell? ⟨g,2,none⟩=some (.int .u64 v0):=hSB.cell 2
  have d3:WB.cell? ⟨g,3,none⟩=some (.int .u64 v1):=hSB.cell 3
  have H0:Hid (Below g w WB.drew∧SB WB.drew g #[.int .u64 u0,.int .u64 u1,.int .u64 v0,.int .u64 v1,.bool false]):=Lib.hid ⟨hB0.trans ((Drw.step WB 1).below _),hSB.drw (Drw.step WB 1)⟩
  have step: ∀(W1 W2:World),Hid (Below g w W1∧SB W1 g #[.int .u64 u0,.int .u64 u1,.int .u64 v0,.int .u64 v1,.bool false])→Below W1.heap.size W1 W2→Hid (Below g w W2∧SB W2 g #[.int .u64 u0,.int .u64 u1,.int .u64 v0,.int .u64 v1,.bool false])∧W2.cell? ⟨g,0,none⟩=some (.int .u64 u0)∧W2.cell? ⟨g,1,none⟩=some (.int .u64 u1)∧W2.cell? ⟨g,2,none⟩=some (.int .u64 v0)∧W2.cell? ⟨g,3,none⟩=some (.int .u64 v1):=fun W1 W2 a b=>
   ⟨Lib.hid ⟨a.out.1.trans (b.mono (Nat.le_of_lt a.out.2.lt)),a.out.2.below a.out.2.lt b⟩,(a.out.2.below a.out.2.lt b).cell 0,(a.out.2.below a.out.2.lt b).cell 1,(a.out.2.below a.out.2.lt b).cell 2,(a.out.2.below a.out.2.lt b).cell 3⟩
  have HSt:=Lib.hid step
  clear step hSB hB0
  go_region_held3 (fun w'=>w'.cell? ⟨g,0,none⟩=some (.int .u64 u0)∧w'.cell? ⟨g,1,none⟩=some (.int .u64 u1)∧w'.cell? ⟨g,2,none⟩=some (.int .u64 v0)∧w'.cell? ⟨g,3,none⟩=some (.int .u64 v1)) (first|exact⟨e20,e21,e22,e23⟩|exact⟨e10,e11,e12,e13⟩|exact⟨d0,d1,d2,d3⟩)
   (first
    |(go_at_call 284;(with_reducible refine(K1.out _ H0.out.1).mono ?_);rintro en w3 ⟨v3,rfl,hv,hb⟩;obtain⟨H1,e10,e11,e12,e13⟩:=HSt.out _ _ H0 hb;have V1:=Lib.hid hv;clear hv hb)
    |(go_at_call 284;(with_reducible refine(K2.out _ H1.out.1).mono ?_);rintro en w4 ⟨v4,rfl,hv,hb⟩;obtain⟨H2',e20,e21,e22,e23⟩:=HSt.out _ _ H1 hb;have V2:=Lib.hid (And.intro hv (V1.out.below hb));clear hv hb))
  go_wp2_with fail
  go_ret2
  exact⟨_,_,rfl,V2.out.2,V2.out.1,by rw[HG.out];exact H2'.out.1⟩
end Go.Proofs.YtedhbbjlbgpafaaGreatDoor
namespace Go.Proofs.YtedhbbjlbgpafaaGreatDoor
open Go.RowKit Go.Shelf
attribute [local go_sem] eqNil neqNil
structure GcdAt(G:Nat)(w wr:World)(p q:Value)(a b:Int):Prop where
 na:Nt wr p a
 nb:Nt wr q b
 a0:0<a
 ba:b≤a
 big:a<big
 gcd:Int.gcd a b=G
 bel:Below w.heap.size w wr
theorem gcd_rest(a b:Int):Int.gcd b (a%b)=Int.gcd a b:=by
 have e:=Int.mul_ediv_add_emod a b
 apply Nat.dvd_antisymm
 ·apply Int.dvd_gcd
  ·rw[←e]
   conv=>lhs;rw[e]
   exact Int.dvd_add (Int.dvd_trans (Int.gcd_dvd_left ..) (Int.dvd_mul_right ..)) (Int.gcd_dvd_right ..)
  ·exact Int.gcd_dvd_left ..
 ·apply Int.dvd_gcd
  ·exact Int.gcd_dvd_right ..
  ·rw[show a%b=a-b*(a/b)by omega]
   exact Int.dvd_sub (Int.gcd_dvd_left ..) (Int.dvd_trans (Int.gcd_dvd_right ..) (Int.dvd_mul_right ..))
theorem gcd_any(w:World)(hE:Env w)(va vb:Value)(x y:Int)(ha:Nt w va x)(hb:Nt w vb y)(hx:x<big)(hy:y<big)(x0:0<x)(y0:0<y)(ho:x%2=1∨y%2=1):
 Calls Tryz.prog 210 #[va,vb] w (NewNt w (Int.gcd x y)):=by
 obtain⟨b1,o1,c1,z1,rfl,hA⟩:=ha.pos (by omega)
 obtain⟨b2,o2,c2,z2,rfl,hB⟩:=hb.pos (by omega)
 have HC:=Lib.hid (natCmp_any w _ _ x y ha hb hx hy)
 have HE:=Lib.hid hE
 have HX:=Lib.hid (And.intro ha (And.intro hb (And.intro hx hy)))
 obtain⟨l1,hl1⟩: ∃l,z1.length=l:=⟨_,rfl⟩
 obtain⟨l2,hl2⟩: ∃l,z2.length=l:=⟨_,rfl⟩
 rw[hl1,hl2]at HX HC
 rw[hl1,hl2]
 clear hE ha hb hx hy hA hB hl1 hl2
 have HO:=Lib.hid ho
 clear ho
 have HGO:Hid (∀a b:Int,Int.gcd a b=Int.gcd x y→a%2=1∨b%2=1):=Lib.hid (by
  intro a b hab
  apply Classical.byContradiction
  intro hh
  have h1:((2:Int))∣a:=by omega
  have h2:((2:Int))∣b:=by omega
  have h3:(2:Nat)∣Int.gcd a b:=Int.dvd_gcd h1 h2
  rw[hab]at h3
  have h4:(2:Int)∣x:=Int.dvd_trans (Int.natCast_dvd_natCast.2 h3) (Int.gcd_dvd_left ..)
  have h5:(2:Int)∣y:=Int.dvd_trans (Int.natCast_dvd_natCast.2 h3) (Int.gcd_dvd_right ..)
  have:=HO.out
  omega)
 obtain⟨G,hG⟩: ∃G,Int.gcd x y=G:=⟨_,rfl⟩
 rw[hG]at HGO⊢
 by_cases hlt:x<y
 case' pos=>have hcm:cmpI x y= -1:=cmpI_lt hlt
 case' neg=>have hcm:cmpI x y=(if y<x then 1 else 0):=by unfold cmpI;rw[if_neg hlt]
 case' neg=>have hcm2:(decide ((if y<x then(1:Int)else 0)<0))=false:=by split<;>rfl
 case' pos=>have HS:Hid (∀w',Drw w w'→GcdAt G w w' (.slice (some ⟨b2,o2,none⟩) l2 c2) (.slice (some ⟨b1,o1,none⟩) l1 c1) y x):=Lib.hid fun w' hd=>⟨HX.out.2.1.below (hd.below _),HX.out.1.below (hd.below _),y0,by omega,HX.out.2.2.2,(Int.gcd_comm _ _).trans hG,hd.below _⟩
 case' neg=>have HS:Hid (∀w',Drw w w'→GcdAt G w w' (.slice (some ⟨b1,o1,none⟩) l1 c1) (.slice (some ⟨b2,o2,none⟩) l2 c2) x y):=Lib.hid fun w' hd=>⟨HX.out.1.below (hd.below _),HX.out.2.1.below (hd.below _),x0,by omega,HX.out.2.2.1,hG,hd.below _⟩
 all_goals rw[hcm]at HC
 case' neg=>generalize (if y<x then(1:Int)else 0)=cc at*
 all_goals clear hcm hG
 all_goals go_enter Tryz.func210,Tryz.ntmps210
 all_goals go_wp2_with (go_at_call 201;refine HC.out.mono ?_;rintro en w' ⟨rfl,hd⟩;have HD:=Lib.hid hd;clear hd)
 all_goals (
  clear HX HO HC
  go_loopg [0,1] (x+y).toNat (fun k p q wr=> ∃a b:Int,b.toNat≤k∧Hid (GcdAt G w wr p q a b))
  case atStart=>exact⟨_,_,by omega,Lib.hid (HS.out _ HD.out)⟩
  case round=>
   obtain⟨a,b,hk,hr⟩:=hrel
   obtain⟨ba,oa,ca,za,rfl,hA⟩:=hr.out.na.pos (by have:=hr.out.a0;omega)
   rcases hr.out.nb with⟨rfl,rfl⟩|⟨bb,ob,cb,zb,rfl,hB⟩
   ·go_wp2_with fail
    go_ret
    have hg:=hr.out.gcd
    rw[Int.gcd_zero_right]at hg
    have ha0:=hr.out.a0
    rw[show((G:Nat):Int)=a by omega]
    exact⟨_,rfl,hr.out.na,hr.out.bel⟩
   ·by_cases hl:zb.length=1
    ·have hb1:=hB.one hl
     obtain⟨g0,g1⟩:=gd_bounds hB.wd 0
     have hb0:=hB.npos
     rw[hb1]at g0 g1
     have cB:=hB.row 0 hB.pos
     rw[hb1,Nat.add_zero]at cB
     have hrest0:0≤a%b:=Int.emod_nonneg _ (by omega)
     have hrest1:a%b<b:=Int.emod_lt_of_pos _ hb0
     have hgr:Int.gcd b (a%b)=G:=(gcd_rest a b).trans hr.out.gcd
     have hG1:((G:Nat):Int)≤b:=by rw[←hgr];exact Int.le_of_dvd hb0 (Int.gcd_dvd_left ..)
     have KR:Hid (∀W,Drw wr W→Calls Tryz.prog 249 #[.slice (some ⟨ba,oa,none⟩) za.length ca,.int .u64 b] W (DrewPost W (.int .u64 (a%b)))):=Lib.hid fun W hW=>restByWord_any W ba oa ca za a b (hA.below (hW.below _)) hr.out.big hb0 g1
     have KG:Hid (∀W,Drw wr W→Calls Tryz.prog 248 #[.int .u64 b,.int .u64 (a%b)] W fun e w'=>e=.returned (.int .u64 (G:Int))∧W=w'):=Lib.hid fun W hW=>by
      have h:=gcdWords_any W b (a%b) ((HE.out.below hr.out.bel).below (hW.below _)) g0 g1 hrest0 (by omega) (HGO.out b (a%b) hgr) hb0
      rw[hgr]at h
      exact h
     have KF:Hid (∀W,Calls Tryz.prog 158 #[.int .u64 (G:Int)] W (NewNt W (G:Int))):=Lib.hid fun W=>fromWord_any W _ (by omega) (by omega)
     have HBEL:=Lib.hid hr.out.bel
     have HLB:=Lib.hid hB.lt
     generalize a%b=r at*
     clear hk hA hB hgr hG1 hb1
     rw[hl]
     have hd0:Hid (Drw wr wr.drew):=Lib.hid (Drw.step wr 1)
     go_wp2_with fail
     go_region_held3 (fun w'=>w'.cell? ⟨bb,ob,none⟩=some (.int .u64 b)) (first|exact e20|exact e10|exact cB)
      (first
       |(go_at_call 249;(with_reducible refine(KR.out _ hd0.out).mono ?_);rintro en w3 ⟨rfl,hd⟩;have e10:=(hd.cell ⟨bb,ob,none⟩).trans ((hd0.out.cell _).trans cB);have hd1:=Lib.hid (hd0.out.trans hd);clear hd)
       |(go_at_call 248;(with_reducible refine(KG.out _ hd1.out).mono ?_);rintro en w4 ⟨rfl,rfl⟩)
       |(go_at_call 158;(with_reducible refine(KF.out _).mono ?_);rintro en w5 ⟨v5,rfl,hv,hb⟩;have e20:=(hb.cell (p:=⟨bb,ob,none⟩) (show bb<_ from Nat.lt_of_lt_of_eq HLB.out (congrArg Array.size hd1.out.heap).symm)).trans e10;have HV:=Lib.hid (And.intro hv hb);clear hv hb))
     go_wp2_with fail
     go_ret
     exact⟨_,rfl,HV.out.1,(HBEL.out.trans (hd1.out.below _)).trans (HV.out.2.mono ((HBEL.out.trans (hd1.out.below _)).size))⟩
    ·have hl2:2≤zb.length:=by have:=hB.pos;omega
     have hyb:b<big:=by have:=hr.out.ba;have:=hr.out.big;omega
     have hb0:=hB.npos
     have HKS:=Lib.hid (simulate_any wr ba oa ca za a bb ob cb zb b hA hB hr.out.big hr.out.ba hl2)
     have HB:=Lib.hid hB
     have HA:=Lib.hid hA
     have hlz:=hB.len hyb
     obtain⟨k,hk2⟩: ∃k,zb.length=k:=⟨_,rfl⟩
     have HKL:=Lib.hid hk2
     rw[hk2]at HKS hl2 hlz⊢
     clear hk2 hl hB hA
     go_wp2_with (go_at_call 246;refine HKS.out.mono ?_;rintro en w1 ⟨u0,u1,v0,v1,t,rfl,hbl,hbd,hst⟩;have HSI:=Lib.hid (And.intro hbl (And.intro hbd hst));clear hbl hbd hst)
     ·have hv:(v0 !=0)=true:=by assumption
      obtain⟨R1,R2,hst⟩:=HSI.out.2.2 (by simpa using hv)
      have hbW:Below wr.heap.size wr (w1.alloc (.cells #[.int .u64 u0,.int .u64 u1,.int .u64 v0,.int .u64 v1,.bool t] 246)):=HSI.out.1.alloc HSI.out.1.size _
      generalize w1.alloc _=W2 at hbW⊢
      have hAp:=apply_any W2 ba oa ca za a bb ob cb zb b (HA.out.below hbW) (HB.out.below hbW) hr.out.big hyb u0 u1 v0 v1 t HSI.out.2.1 R1 R2 hst
      rw[HKL.out]at hAp
      have hlb:=hst.less (by simpa using hv)
      have hn2:=hst.n2
      refine hAp.mono ?_
      rintro en w3 ⟨va',vb',rfl,h1,h2,h3⟩
      have HN:Hid (GcdAt G w w3 va' vb' R1 R2):=Lib.hid ⟨h1,h2,by have:=hst.lt;omega,by have:=hst.lt;omega,by have:=hst.le;have:=hr.out.big;omega,hst.gcd.trans hr.out.gcd,hr.out.bel.trans ((hbW.trans (h3.mono hbW.size)).mono hr.out.bel.size)⟩
      clear h1 h2 h3 hst hAp hbW
      go_wp2_with fail
      go_roundg (gk-1)
      case measure=>omega
      case rel=>exact⟨R1,R2,by omega,HN⟩
     ·have hbW:Below wr.heap.size wr (w1.alloc (.cells #[.int .u64 u0,.int .u64 u1,.int .u64 v0,.int .u64 v1,.bool t] 246)):=HSI.out.1.alloc HSI.out.1.size _
      generalize w1.alloc _=W2 at hbW⊢
      have hNB:=(HB.out.below hbW).nt
      have hDv:=divide_any W2 _ _ a b (HA.out.below hbW).nt hNB hr.out.big hyb (by have:=hr.out.a0;omega) hb0
      rw[HKL.out]at hDv hNB
      refine hDv.mono ?_
      rintro en w3 ⟨vq,vb',rfl,h1,h2,h3⟩
      have hm0:0≤a%b:=Int.emod_nonneg _ (by omega)
      have hm1:a%b<b:=Int.emod_lt_of_pos _ hb0
      have HN:Hid (GcdAt G w w3 (.slice (some ⟨bb,ob,none⟩) k cb) vb' b (a%b)):=Lib.hid ⟨hNB.below h3,h2,hb0,by omega,hyb,(gcd_rest a b).trans hr.out.gcd,hr.out.bel.trans ((hbW.trans (h3.mono hbW.size)).mono hr.out.bel.size)⟩
      generalize a%b=r at*
      clear h1 h2 h3 hDv hNB hbW
      go_wp2_with fail
      go_roundg (gk-1)
      case measure=>omega
      case rel=>exact⟨b,r,by omega,HN⟩)
end Go.Proofs.YtedhbbjlbgpafaaGreatDoor
namespace Go.Proofs.YtedhbbjlbgpafaaGreatDoor
open Go.RowKit Go.Shelf
attribute [local go_sem] eqNil neqNil
end Go.Proofs.YtedhbbjlbgpafaaGreatDoor
namespace Go.Proofs.YtedhbbjlbgpafaaGreatDoor
open Go.RowKit Go.Shelf
attribute [local go_sem] eqNil neqNil
end Go.Proofs.YtedhbbjlbgpafaaGreatDoor
namespace Go.Proofs.YtedhbbjlbgpafaaGreatDoor
open Go.RowKit Go.Shelf
attribute [local go_sem] eqNil neqNil
theorem drew_below(w:World):Below w.heap.size w w.drew:=(Drw.step w 1).below _
end Go.Proofs.YtedhbbjlbgpafaaGreatDoor
namespace Go.Proofs.YtedhbbjlbgpafaaGreatDoor
open Go.RowKit Go.Shelf
attribute [local go_sem] eqNil neqNil
end Go.Proofs.YtedhbbjlbgpafaaGreatDoor
namespace Go.Proofs.YtedhbbjlbgpafaaGreatDoor
open Go.RowKit Go.Shelf
attribute [local go_sem] eqNil neqNil
end Go.Proofs.YtedhbbjlbgpafaaGreatDoor
namespace Go.Proofs.YtedhbbjlbgpafaaGreatDoor
open Go.RowKit Go.Shelf
attribute [local go_sem] eqNil neqNil
end Go.Proofs.YtedhbbjlbgpafaaGreatDoor
namespace Go.Proofs.YtedhbbjlbgpafaaGreatDoor
open Go.RowKit Go.Shelf
attribute [local go_sem] eqNil neqNil
end Go.Proofs.YtedhbbjlbgpafaaGreatDoor
