/-
  The reference's long division.
-/
import Derived.Test.YtnapiakfbihnjaaGreatDoorP15
import Derived.Laws.AppendOwnNone
set_option linter.unusedVariables false
set_option linter.unusedSimpArgs false
namespace Go.Proofs.YtnapiakfbihnjaaGreatDoor.R
open Go.RowKit Go.Shelf Tryz
def rO(w:World)(x y:Int)(e:Ending)(w':World):Prop:= ∃vq vr,e=.returned (.tuple #[vq,vr])∧Nt w' vq (x/y)∧Nt w' vr (x%y)∧Below w.heap.size w w'
theorem Zx(w:World)(d:Int):(w.alloc (.cells #[.int .i64 d] 2)).ownsRow w.heap.size 2 1 (.slice (some ⟨w.heap.size,0,none⟩) 1 1) 1 [.int .i64 d]:=
 ⟨rfl,.inr ⟨w.heap.size,1, #[.int .i64 d],rfl,Nat.le_refl _,heap_alloc_new w _,Nat.le_refl _,by unfold maxLen;omega,rfl,rfl⟩⟩
theorem zO(w:World)(x:Int)(h0:0<x)(h1:x<1000000000):Nt (w.alloc (.cells #[.int .i64 x] 2)) (.slice (some ⟨w.heap.size,0,none⟩) 1 1) x:=by
 refine .inr ⟨w.heap.size,0,1,[x],rfl,⟨Nat.le_refl _,by simp,by rw[World.size_alloc];omega,?_,?_,by simp[nv],?_,⟨_,_,heap_alloc_new w _⟩⟩⟩
 ·intro z hz;simp at hz;subst hz;exact⟨by omega,h1⟩
 ·simp[gd];omega
 ·intro i hi
  have:i=0:=by simp at hi;omega
  subst this
  simp[gd,go_sem]
theorem aip{w:World}{base:Nat}{v:Value}{z:Int}{zr:List Int}(ho:w.ownsRow base 2 1 v (1+zr.length) (Value.int .i64 z::zr.map (Value.int .i64)))(hne: ¬v=.slice none 0 0):
 ∃g c,v=.slice (some ⟨g,0,none⟩) (z::zr).length c∧(z::zr).length≤c∧Typ w g∧Row w g 0 (z::zr)∧base≤g:=by
 have ho2:=ho
 obtain⟨h1,h2⟩:=ho
 rcases h2 with⟨h',_⟩|⟨g',cap',cur,rfl,hge,hh,h3,_⟩
 ·exact absurd h' hne
 ·refine⟨g',cap',by rw[List.length_cons,Nat.add_comm],by rw[List.length_cons];omega,⟨_,_,hh⟩,fun i hi=>?_,hge⟩
  have:=World.ownsRow.cells ho2 (g:=g') rfl i (.int .i64 (gd (z::zr) i)) (by
   rw[show(Value.int IntKind.i64 z::zr.map (Value.int .i64))=(z::zr).map (Value.int .i64)by simp,List.getElem?_map,List.getElem?_eq_getElem hi,gK hi];rfl)
  simp only[Addr.add]at this
  by_cases h0:i=0
  ·subst h0;simpa using this
  ·simpa [h0]using this
theorem aiq{L:List Int}{m:Nat}(h:gd L m=0)(hm:m<L.length):L.set m 0=L:=by
 apply List.ext_getElem (by simp)
 intro i h1 h2
 rw[List.getElem_set]
 split
 ·rename_i e
  subst e
  rw[gK hm]at h
  exact h.symm
 ·rfl
theorem dvd_zero{g:Nat}{za:List Int}{y:Int}{m:Nat}{w w2:World}{R:Int}{L:List Int}(hm:m<za.length)(hw:Wd za)(y0:0<y)(h:Ag g za y (m+1) w R L)(hR:0≤R)(hlt:gd za m+1000000000*R<y)(hB:bH w2 g L):
 Ag g za y m w2 (gd za m+1000000000*R) L:=by
 obtain⟨z0,z1⟩:=aI hw m
 have e:pw=1000000000:=rfl
 have hs:=aiq (h.low m (by omega)) (by rw[h.len];exact hm)
 have:=Vm (w2:=w2) hm hw y0 h 0 (by rw[e,Int.ediv_eq_zero_of_lt (by omega) hlt]) (by rw[hs];exact hB)
 rwa [hs,e,Int.emod_eq_of_lt (by omega) hlt]at this
theorem Nt.cases{w:World}{v:Value}{R:Int}(h:Nt w v R)(hb:R<pw^1990):(v=.slice none 0 0∧R=0)∨ ∃(ar:Addr) (cr:Nat) (zr:List Int),v=.slice (some ar) zr.length cr∧Wd zr∧nv zr=R∧zr.length≤1990∧ ∀j u,(zr.map (Value.int .i64))[j]?=some u→w.cell? (ar.add j)=some u∧ar.block<w.heap.size:=by
 rcases h with⟨rfl,p,c,rfl,hpc⟩|⟨b,off,cap,zs,rfl,h⟩
 ·cases p with
  |none=>obtain rfl:=hpc rfl;exact .inl ⟨rfl,rfl⟩
  |some a=>exact .inr ⟨a,c,[],rfl,qR,rfl,by simp,fun j u hu=>by simp at hu⟩
 ·refine .inr ⟨_,cap,zs,rfl,h.wd,h.val,iI h.wd h.can h.val hb,fun j u hu=>⟨?_,h.lt⟩⟩
  obtain⟨hj,rfl⟩:=List.getElem?_eq_some_iff.1 hu
  have hj:j<zs.length:=by simpa using hj
  have:=h.row j hj
  rw[gK hj]at this
  simp only[Addr.add]
  by_cases h0:j=0
  ·subst h0;simpa using this
  ·simpa [h0]using this
theorem Nt.ns{w:World}{b off m cap:Nat}{n:Int}(h:Nt w (.slice (some ⟨b,off,none⟩) m cap) n)(h0:n≠0): ∃zs,zs.length=m∧Ns w b off cap zs n:=by
 obtain⟨b',off',cap',zs,e,h⟩:=h.pos h0
 cases e
 exact⟨zs,rfl,h⟩
theorem Ns.only{w w':World}{g b off cap:Nat}{zs:List Int}{n:Int}(h:Ns w b off cap zs n)(ho:Only g w w')(hne:b≠g):Ns w' b off cap zs n:=
 {h with
  lt:=Nat.lt_of_lt_of_le h.lt ho.size
  row:=fun i hi=>ho.cell (h.row i hi) hne
  ty:=by
   obtain⟨c,f,h1⟩:=h.ty
   exact⟨c,f,(ho.block b h.lt (by simpa using hne)).trans h1⟩}
structure awr(r y t x q:Int):Prop where
 low:x/(t+1)≤q
 high:q≤(x+1)/t
 top:q≤999999999
 pos:1≤q
 le: ∀n,n≤q↔y*n≤r
theorem guess{zb rs:List Int}{y r:Int}{k:Nat}(hb:Wd zb)(cb:Can zb)(vb:nv zb=y)(hk:zb.length=k+1)(hr:Wd rs)(cr:Can rs)(vr:nv rs=r)(h1:y≤r)(h2:r<1000000000*y):
 k+1≤rs.length∧rs.length≤k+2∧awr r y (gd zb k) (gd rs k+1000000000*gd rs (k+1)) (r/y)∧1≤gd zb k:=by
 have nb:zb≠ []:=by intro e;subst e;simp at hk
 have y0:0<y:=vb▸GH hb cb nb
 have nr:rs≠ []:=by intro e;subst e;simp[nv]at vr;omega
 obtain⟨t1,t2,t3⟩:=abM hb cb nb
 rw[hk,vb,show k+1-1=k by omega]at t1 t2
 rw[hk,show k+1-1=k by omega]at t3
 have hl:k+1≤rs.length:=by
  apply Classical.byContradiction
  intro hc
  have:=jb hr
  rw[vr]at this
  have h3:=bT (show rs.length≤k by omega)
  have h4:=Int.mul_le_mul_of_nonneg_right t3 (Int.le_of_lt (ji k))
  omega
 have hu:rs.length≤k+2:=by
  refine iI hr cr vr ?_
  have:=jb hb
  rw[vb,hk]at this
  rw[show k+2=(k+1)+1 from rfl,Int.pow_succ,show pw^(k+1)*pw=1000000000*pw^(k+1)by rw[Int.mul_comm];rfl]
  omega
 obtain⟨r1,r2⟩:=Xu hr (k:=k+1) (by omega) (by omega)
 rw[vr,show k+1-1=k by omega]at r1 r2
 obtain⟨a0,a1⟩:=aI hr k
 obtain⟨b0,b1⟩:=aI hr (k+1)
 obtain⟨d1,d2⟩:=Vl (ji k) t3 (by omega) r1 r2 t1 t2
 refine⟨hl,hu,⟨d1,d2,?_,?_,?_⟩,t3⟩
 ·have:r/y<1000000000:=Int.ediv_lt_of_lt_mul y0 h2
  omega
 ·exact(Int.le_ediv_iff_mul_le y0).2 (by omega)
 ·intro n;rw[Int.le_ediv_iff_mul_le y0,Int.mul_comm]
theorem Zy{x y:Int}:bW x y≤0↔x≤y:=by
 unfold bW;split
 ·omega
 ·split<;>omega
set_option maxRecDepth 100000 in
set_option maxHeartbeats 4000000 in
theorem Xv(w:World)(p:Option Addr)(cap:Nat)(za:List Int)(b2 aX cap2:Nat)(zb:List Int)(y:Int)(ha:Dg w p cap za)(hb:Ns w b2 aX cap2 zb y)(hl:za.length≤2000)(hy:y<pw^1990):
 Calls prog 163 #[.slice p za.length cap,.slice (some ⟨b2,aX,none⟩) zb.length cap2] w (rO w (nv za) y):=by
 have hyb:y<big:=by have:=bT (show 1990≤2000 by omega);unfold big;omega
 have hl2:zb.length≤1990:=iI hb.wd hb.can hb.val hy
 have hcap:=ha.cap
 have hcap2:=hb.cap
 have hpos:=hb.pos
 have y0:=hb.npos
 have H:=h_ ha
 have H2:=h_ hb
 have HY:=h_ (And.intro hy hyb)
 clear ha hb hy hyb
 obtain⟨l,hl'⟩: ∃l,za.length=l:=⟨_,rfl⟩
 obtain⟨k,hk'⟩: ∃k,zb.length=k:=⟨_,rfl⟩
 have HL:=h_ hl'
 have HK:=h_ hk'
 rw[hl']at hl hcap⊢
 rw[hk']at hl2 hcap2 hpos⊢
 clear hl' hk'
 obtain⟨kk,rfl⟩: ∃kk,k=kk+1:=⟨k-1,by omega⟩
 obtain⟨i0,hi,hz0,hz1,hz2⟩:=info_parts IE
 go_enter func163,ntmps163
 go_wp2_with (at_make;refine wpList_make_full w rfl (.tmp 15) (.tmp 15) 59 rfl w.heap.size 2 i0 (.int .i64 0) 1 underlying59 hi hz0 hz1 .i64 .i64 _ _ l rfl rfl (by omega) (by omega) (by rw[hz2];omega) (by unfold maxLen;omega) (Nat.le_refl _) ?_;intro w1 hown hgrow;have hblk:=h_ (jV hown);have hbel:=h_ (gV hgrow);clear hown hgrow)
 generalize hg:w.heap.size=g at hblk hbel
 have HG:=h_ hg
 clear hg
 have b2g:b2<g:=by have:=H2.out.lt;have:=HG.out;omega
 go_loopw [8,9] (fun r v wr=> ∃(m:Nat) (R:Int),m≤l∧v=.int .i64 ((m:Int)-1)∧Nt wr r R∧0≤R∧R<y∧Hid (Below g w wr∧ ∃L,Ag g za y m wr R L)) (fun _ v _=>(intOf v+1).toNat)
 case atStart=>exact⟨l,0,Nat.le_refl _,by go_num,Nt.zero _,by omega,y0,h_ ⟨hbel.out,_,⟨by simp[HL.out],fA _,by rw[iU,←HL.out,List.drop_length];simp[nv],by rw[←HL.out,List.drop_length];simp[nv],fun j _=>nS _ j,hblk.out⟩⟩⟩
 case round=>
  obtain⟨m,R,him,rfl,hrn,R0,R1,hr⟩:=hrel
  rcases m with _|m
  ·obtain⟨hbw,L,hL⟩:=hr.out
   have HH:=h_ hL
   have HBw:=h_ hbw
   have HR:=h_ hrn
   obtain⟨bo,lo,co,rfl⟩:=hrn.shape
   clear hr hL hbw hrn
   have hcut:=zT g 0 l L wr (by rw[HH.out.len,HL.out];omega) (by rw[HH.out.len,HL.out];exact Nat.le_refl _) HH.out.blk.row
   rw[HH.out.len,HL.out]at hcut
   have HC:=h_ hcut
   clear hcut
   go_wp2_with fail
   refine HC.out.mono ?_
   rintro e w' ⟨rfl,m',hm1,hm2,hm3,rfl⟩
   go_wp2_with fail
   go_ret2
   refine⟨_,_,rfl,?_,?_,by rw[HG.out];exact HBw.out⟩
   ·have hv:=HH.out.val
    rw[Int.pow_zero,Int.one_mul,List.drop_zero]at hv
    rw[←hv]
    exact DC HH.out.blk.row HH.out.blk.typ HH.out.wd (by rw[HH.out.len,HL.out];exact Nat.le_refl _) m' hm1 hm2 hm3
   ·have hv:=HH.out.rest
    rw[List.drop_zero]at hv
    rw[←hv];exact HR.out
  ·have e:(((m+1:Nat):Int)-1)=(m:Int):=by omega
   rw[e]
   clear e
   obtain⟨hbw,L,hL⟩:=hr.out
   obtain⟨b,off,rfl,hb,hrow⟩:=H.out.row (by intro e;rw[e]at HL;have:=HL.out;simp at this;omega)
   have cA:=(hbw.cell (p:=⟨b,off+m,none⟩) (by have:=HG.out;simp;omega)).trans (hrow m (by rw[HL.out];omega))
   obtain⟨a0,a1⟩:=aI H.out.wd m
   have HBw:=h_ hbw
   have hgr:g≤wr.heap.size:=by have:=hbw.size;have:=HG.out;omega
   have HI:=h_ hL
   have hgl:g<wr.heap.size:=hL.blk.lt
   have hr0:=hr
   clear hr hL hbw hb hrow
   generalize hz:gd za m=z at*
   have HZ:=h_ hz
   clear hz
   have hcase:=hrn.cases (by have:=HY.out.1;omega)
   clear hrn
   have FIN:Hid (∀(w2:World) (g2 c2:Nat) (zr:List Int),Wd zr→nv zr=R→zr.length≤1990→(z::zr).length≤c2→Typ w2 g2→Row w2 g2 0 (z::zr)→Calls prog 183 #[.slice (some ⟨g2,0,none⟩) (z::zr).length c2] w2 fun e w'=>w'=w2∧ ∃m',e=.returned (.slice (some ⟨g2,0,none⟩) m' c2)∧Nt w2 (.slice (some ⟨g2,0,none⟩) m' c2) (z+1000000000*R)):=h_ fun w2 g2 c2 zr hw hv hlen hc hg2 hrow=>by
    refine(zT g2 0 c2 (z::zr) w2 (by simp;omega) hc hrow).mono ?_
    rintro e w' ⟨rfl,m',h1,h2,h3,rfl⟩
    have:=DC hrow hg2 (oI.2 ⟨⟨a0,a1⟩,hw⟩) hc m' h1 h2 h3
    simp only[nv]at this
    rw[hv,show pw=1000000000 from rfl]at this
    exact⟨rfl,m',rfl,this⟩
   have hcv:Hid (Below g w wr∧ ∃L,Ag g za y (m+1) wr R L):=hr0
   rcases hcase with⟨rfl,hR0⟩|⟨ar,cr,zr,rfl,hzw,hzv,hzl,hzc⟩
   case' inl=>
    have F:=FIN.out (wr.alloc (.cells #[.int .i64 z] 2)) wr.heap.size 1 [] qR (by rw[hR0];rfl) (by simp) (Nat.le_refl _) ⟨_,_,heap_alloc_new wr _⟩ (by
     intro i hi
     have:i=0:=by simp at hi;omega
     subst this
     simp[gd,go_sem])
    have FH:=h_ F
    have hg2:g<wr.heap.size:=hgl
    clear F hR0
    have hB2:=h_ (show Below wr.heap.size wr (wr.alloc (.cells #[.int .i64 z] 2))from(Below.refl _ _).alloc (Nat.le_refl _) _)
    go_wp2_with (at_builtin;refine wpList_append_own_none rfl (.tmp 30) (.tmp 31) 59 rfl wr.heap.size 2 i0 1 underlying59 hi _ 1 [.int .i64 z] rfl (Zx wr z) rfl ?_)
    refine FH.out.mono ?_
    rintro e w2 ⟨rfl,m',rfl,hnt⟩
    have HV:=h_ (And.intro hnt hB2.out)
    clear hnt FH hB2
   case' inr=>
    go_wp2_with (at_builtin;refine wpList_append_own _ rfl (.tmp 30) (.tmp 31) 59 rfl wr.heap.size 2 i0 (.int .i64 0) 1 8 underlying59 hi hz0 hz1 hz2 rfl (by decide) _ 1 [.int .i64 z] rfl (Zx wr z) ar zr.length cr (zr.map (Value.int .i64)) rfl (by simp) ?c1 (by intro u hu;obtain⟨x,_,rfl⟩:=List.mem_map.1 hu;rfl) (by unfold maxLen;omega) (by omega) (by simp) ?_)
    case c1=>intro j u hu;exact((show Below wr.heap.size wr (wr.alloc (.cells #[.int .i64 z] 2))from(Below.refl _ _).alloc (Nat.le_refl _) _).cell (p:=ar.add j) (by have:=(hzc j u hu).2;simp only[Addr.add];split<;>exact this)).trans (hzc j u hu).1
    intro v2 w2 hown2 hgrow2 hnil
    have hnil': ¬v2=.slice none 0 0:=by simpa using hnil
    obtain⟨g2,c2,rfl,q1,q2,q3,q4⟩:=aip hown2 hnil'
    have hg2:g<g2:=Nat.lt_of_lt_of_le hgl q4
    have hB2:=h_ (show Below wr.heap.size wr w2 from((Below.refl wr.heap.size wr).alloc (Nat.le_refl _) _).grown hgrow2 (by simp) (fun k hk=>by cases hk;exact Nat.le_refl _))
    have FH:=h_ (FIN.out w2 g2 c2 zr hzw hzv hzl q1 q2 q3)
    clear hown2 hgrow2 hnil hnil' q1 q2 q3 q4 hzc hzw hzv
    go_wp2_with fail
    refine FH.out.mono ?_
    rintro e w2 ⟨rfl,m',rfl,hnt⟩
    have HV:=h_ (And.intro hnt hB2.out)
    clear hnt FH hB2 hzl
   all_goals
    have hR9:z+1000000000*R<big:=by
     have h1:=HY.out.1
     have h2:pw^1991≤big:=bT (by omega)
     rw[show(1991:Nat)=1990+1 from rfl,Int.pow_succ,show pw^1990*pw=1000000000*pw^1990 by rw[Int.mul_comm];rfl]at h2
     omega
    have HCm:=h_ (lw _ _ _ (z+1000000000*R) y HV.out.1 (H2.out.nt.below (by have:=HV.out.2.mono hgr;exact((HBw.out.trans (HV.out.2.mono hgr)).mono (by have:=HG.out;omega)))) hR9 HY.out.2)
    rw[HK.out]at HCm
    go_wp2_with fail
    refine HCm.out.mono ?_
    rintro e w3 ⟨rfl,hd⟩
    have hB3:Below wr.heap.size wr w3:=HV.out.2.trans (hd.below _)
    have hgs:g<w3.heap.size:=Nat.lt_of_lt_of_le hgl hB3.size
    have HB3:=h_ (HBw.out.trans (hB3.mono hgr))
    have HK3:=h_ (HI.out.blk.below hgl hB3)
    have HN3:=h_ (HV.out.1.below (hd.below _))
    have HZB:=h_ (H2.out.below (HB3.out.mono (by have:=HG.out;omega)))
    have HZm:Hid (gd za m=z):=HZ
    clear hB3 hd HCm hcv
    by_cases hlt:z+1000000000*R<y
    ·have hcm:bW (z+1000000000*R) y= -1:=iV hlt
     rw[hcm]
     have HS:=h_ (dvd_zero (w2:=w3) (by rw[HL.out];omega) H.out.wd y0 HI.out R0 (by rw[HZm.out];exact hlt) HK3.out)
     rw[HZm.out]at HS
     go_wp2_with fail
     go_roundw
     case rel=>exact⟨m,z+1000000000*R,by omega,by go_num,HN3.out,by omega,hlt,h_ ⟨HB3.out,L,HS.out⟩⟩
     case measure=>simp[intOf]<;>omega
   all_goals
    have hcm: ¬bW (z+1000000000*R) y<0:=by unfold bW;rw[if_neg hlt];split<;>omega
    obtain⟨rs,hrl,hN⟩:=HN3.out.ns (by omega)
    obtain⟨g1,g2',G,gt⟩:=guess H2.out.wd H2.out.can H2.out.val HK.out hN.wd hN.can hN.val (by omega) (by omega)
    have ct:=HZB.out.row kk (by rw[HK.out];omega)
    have c0:=hN.row kk (by omega)
    rw[Nat.zero_add]at c0
    obtain⟨t0,t1⟩:=aI H2.out.wd kk
    obtain⟨x00,x01⟩:=aI hN.wd kk
    obtain⟨x10,x11⟩:=aI hN.wd (kk+1)
    obtain⟨X,hX⟩: ∃X,gd rs kk+1000000000*gd rs (kk+1)=X:=⟨_,rfl⟩
    have HNr:=h_ hN
    rw[hX]at G
    have HG1:=h_ G
    clear G HZm
    have ek:((kk:Int)+1-1)=kk:=by omega
    rcases(show rs.length=kk+1∨rs.length=kk+2 by omega)with hlen|hlen
   all_goals
    try (have c1:=hN.row (kk+1) (by omega);rw[Nat.zero_add]at c1)
    try (have hov:gd rs (kk+1)=0:=iL (by omega);rw[hov,Int.mul_zero,Int.add_zero]at hX;clear hov)
    have X0:0≤X∧X<1000000000000000000:=by omega
    clear hN
    generalize gd zb kk=t at*
    generalize gd rs kk=x0 at*
    generalize gd rs (kk+1)=x1 at*
    subst hrl
    clear HV HN3
    rw[hlen]
    have HLR:=h_ hlen
    clear hlen g1 g2'
    try (obtain rfl:X=x0:=hX.symm)
    try (have hw1:IntKind.i64.wrap (1000000000*x1)=1000000000*x1:=IntWalk.i64_in _ (by omega)
         have hw2:IntKind.i64.wrap X=X:=IntWalk.i64_in _ (by omega)
         rw[←hX]at hw2)
    go_wp2_with fail
   all_goals
    have hq1:IntKind.i64.wrap (t+1)=t+1:=IntWalk.i64_in _ (by omega)
    have hq2:IntKind.i64.wrap (X+1)=X+1:=IntWalk.i64_in _ (by omega)
    have hq3:Int.tdiv X (t+1)=X/(t+1):=Int.tdiv_eq_ediv_of_nonneg X0.1
    have hq4:Int.tdiv (X+1) t=(X+1)/t:=Int.tdiv_eq_ediv_of_nonneg (by omega)
    have l1:=HG1.out.low
    have l2:=HG1.out.top
    have l3:=HG1.out.high
    have l4:(X+1)/t≤X+1:=Int.ediv_le_self _ (by omega)
    have l5:0≤X/(t+1):=Int.ediv_nonneg X0.1 (by omega)
    have l6:0≤(X+1)/t:=Int.ediv_nonneg (by omega) (by omega)
    have hq5:IntKind.i64.wrap (X/(t+1))=X/(t+1):=IntWalk.i64_in _ (by omega)
    have hq6:IntKind.i64.wrap ((X+1)/t)=(X+1)/t:=IntWalk.i64_in _ (by omega)
    have n1: ¬t+1=0:=by omega
    have n2: ¬t=0:=by omega
    go_quiet (fail)
    go_wp2_with fail
   all_goals
    obtain⟨Q,hQ⟩: ∃Q,(z+1000000000*R)/y=Q:=⟨_,rfl⟩
    have HQ:=h_ hQ
    have HLE:=h_ HG1.out.le
    have Q1:=HG1.out.pos
    rw[hQ]at HLE l1 l2 l3 Q1
    have HB4:=h_ ((aY.step w3 nq).below w3.heap.size)
    have hYs:Hid (y<pw^1990):=h_ HY.out.1
    have hPB:Hid (∀n:Int,0≤n→n≤999999999→y*n<big):=h_ fun n h0 h1=>by
     have h2:pw^1991≤big:=bT (by omega)
     rw[show(1991:Nat)=1990+1 from rfl,Int.pow_succ,show pw^1990*pw=1000000000*pw^1990 by rw[Int.mul_comm];rfl]at h2
     have h3:=Int.mul_le_mul_of_nonneg_left h1 (Int.le_of_lt y0)
     have h4:=HY.out.1
     omega
    have HR9:=h_ hR9
    have HSM:Hid ((999999999:Int)<big):=h_ (by unfold big;exact Int.lt_of_lt_of_le (show(999999999:Int)<pw^1 by decide) (bT (by omega)))
    clear c0 ct hq1 hq2 hq3 hq4 hq5 hq6 n1 n2 hQ HG1 hR9 cA
    try clear c1
    try clear hw1
    try clear hw2
    generalize w3.drewN nq=w4 at*
    go_loopw [11,12] (fun u v wi=> ∃lo hi:Int,u=.int .i64 lo∧v=.int .i64 hi∧0≤lo∧lo≤Q∧Q≤hi∧hi≤999999999∧Hid (Below w3.heap.size w3 wi)) (fun u v _=>(intOf v-intOf u).toNat)
    case atStart=>exact⟨_,_,rfl,rfl,l5,l1,by omega,by omega,HB4⟩
    case round=>
     clear l1 l3 l4 l5 l6 HB4
     obtain⟨lo,hi',rfl,rfl,Dl,loQ,Qhi,hi9,hbi⟩:=hrel
     have HZi:=h_ (HZB.out.below hbi.out)
     have HNi:=h_ (HNr.out.below hbi.out)
     by_cases hlh:lo<hi'
     ·have e1:IntKind.i64.wrap (lo+hi')=lo+hi':=IntWalk.i64_in _ (by omega)
      have e2:IntKind.i64.wrap (lo+hi'+1)=lo+hi'+1:=IntWalk.i64_in _ (by omega)
      have e3:Int.tdiv (lo+hi'+1) 2=(lo+hi'+1)/2:=Int.tdiv_eq_ediv_of_nonneg (by omega)
      obtain⟨mid,hmid⟩: ∃mid,(lo+hi'+1)/2=mid:=⟨_,rfl⟩
      have m0:lo<mid:=by omega
      have m1:mid≤hi':=by omega
      rw[hmid]at e3
      clear hmid
      have e4:IntKind.i64.wrap mid=mid:=IntWalk.i64_in _ (by omega)
      have e5:IntKind.i64.wrap (mid-1)=mid-1:=IntWalk.i64_in _ (by omega)
      have hba:Below wr.heap.size wr (wr.alloc (.cells #[.int .i64 mid] 2)):=(Below.refl _ _).alloc (Nat.le_refl _) _
      have HP:=h_ (kJ (wr.alloc (.cells #[.int .i64 mid] 2)) _ _ y mid (HZi.out.below hba).nt (zO wr mid (by omega) (by omega)) HY.out.2 (by have:=HSM.out;omega))
      rw[HK.out]at HP
      go_wp2_with fail
      refine HP.out.mono ?_
      rintro e w5 ⟨v5,rfl,hv5,hb5⟩
      obtain⟨zU,zV,zW,rfl⟩:=hv5.shape
      have G8:Below wr.heap.size wr w5:=hba.trans (hb5.mono hba.size)
      have HC:=h_ (lw w5 _ _ (y*mid) (z+1000000000*R) hv5 (HNi.out.below G8).nt (hPB.out mid (by omega) (by omega)) HR9.out)
      rw[HLR.out]at HC
      have Gu:=h_ (hbi.out.trans (G8.mono hbi.out.size))
      clear hba HP hv5 hb5 G8
      go_wp2_with fail
      refine HC.out.mono ?_
      rintro e w6 ⟨rfl,hd6⟩
      have HB6:=h_ (Gu.out.trans ((hd6.below _).mono (by have:=Gu.out.size;exact this)))
      clear HC hd6
      by_cases hle:mid≤Q
      ·have hc:bW (y*mid) (z+1000000000*R)≤0:=Zy.2 ((HLE.out mid).1 hle)
       go_wp2_with fail
       go_roundw
       case rel=>exact⟨mid,hi',rfl,rfl,by omega,hle,Qhi,hi9,HB6⟩
       case measure=>simp[intOf]<;>omega
      ·have hc: ¬bW (y*mid) (z+1000000000*R)≤0:=fun h=>hle ((HLE.out mid).2 (Zy.1 h))
       go_wp2_with fail
       go_roundw
       case rel=>exact⟨lo,mid-1,rfl,rfl,Dl,loQ,by omega,by omega,HB6⟩
       case measure=>simp[intOf]<;>omega
     ·obtain rfl:lo=Q:=by omega
      obtain rfl:hi'=lo:=by omega
      clear loQ Qhi hlh
      have HBi:=h_ (HB3.out.trans (hbi.out.mono (by omega)))
      have HKi:=h_ (HK3.out.below hgs hbi.out)
      have cO:=HKi.out.cell m (by rw[HI.out.len,HL.out];omega)
      have fO:=HKi.out.frozen m
      have H0:=HI.out.low m (by omega)
      have HKs:Hid (bH (wr.setCell ⟨g,m,none⟩ (.int .i64 hi')) g (L.set m hi')):=h_ (HKi.out.set m hi')
      have HOn:Hid (Only g wr (wr.setCell ⟨g,m,none⟩ (.int .i64 hi'))):=h_ ((Only.refl g wr).set m _)
      rw[H0]at cO
      clear H0
      generalize hs:wr.setCell ⟨g,m,none⟩ (.int .i64 hi')=ws at HKs HOn
      have hba:Below ws.heap.size ws (ws.alloc (.cells #[.int .i64 hi'] 2)):=(Below.refl _ _).alloc (Nat.le_refl _) _
      have HZs:=HZi.out.only HOn.out (by omega)
      have HNs:=HNi.out.only HOn.out (by omega)
      have HBs:=h_ (HBi.out.trans (HOn.out.below (by have:=hbi.out.size;omega) (Nat.le_refl _)))
      have HP:=h_ (kJ (ws.alloc (.cells #[.int .i64 hi'] 2)) _ _ y hi' (HZs.below hba).nt (zO ws hi' (by omega) (by omega)) HY.out.2 (by have:=HSM.out;omega))
      rw[HK.out]at HP
      go_wp2_with fail
      refine HP.out.mono ?_
      rintro e w5 ⟨v5,rfl,hv5,hb5⟩
      obtain⟨zU,zV,zW,rfl⟩:=hv5.shape
      have G8:Below ws.heap.size ws w5:=hba.trans (hb5.mono hba.size)
      have hmul:y*hi'≤z+1000000000*R:=(HLE.out hi').1 (Int.le_refl _)
      have HC:=h_ (iW w5 _ _ (z+1000000000*R) (y*hi') (HNs.below G8).nt hv5 HR9.out hmul)
      rw[HLR.out]at HC
      have Gu:=h_ (HBs.out.trans (G8.mono (by have:=HBs.out.size;have:=HKs.out.lt;omega)))
      have HK5:=h_ (HKs.out.below HKs.out.lt G8)
      clear hba HP hv5 hb5 G8 hmul
      go_wp2_with fail
      refine HC.out.mono ?_
      rintro e w6 ⟨v6,rfl,hv6,hb6⟩
      obtain⟨bo6,lo6,co6,rfl⟩:=hv6.shape
      have hB6:=Gu.out.trans (hb6.mono (Nat.le_of_lt HK5.out.lt))
      have hK6:=HK5.out.below HK5.out.lt hb6
      have hS:=Vm (by rw[HL.out];omega) H.out.wd y0 HI.out hi' (by rw[HZ.out];exact HQ.out.symm) hK6
      rw[HZ.out]at hS
      have ahn:z+1000000000*R-y*hi'=(z+pw*R)%y:=by
       have:=Int.mul_ediv_add_emod (z+1000000000*R) y
       rw[HQ.out]at this
       show _=(z+1000000000*R)%y
       omega
      rw[ahn]at hv6
      have HF:Hid (Nt w6 (.slice bo6 lo6 co6) ((z+pw*R)%y)∧0≤(z+pw*R)%y∧(z+pw*R)%y<y∧Below g w w6∧Ag g za y m w6 ((z+pw*R)%y) (L.set m hi')):=h_ ⟨hv6,Int.emod_nonneg _ (by omega),Int.emod_lt_of_pos _ y0,hB6,hS⟩
      clear HC hv6 hb6 hB6 hK6 hS ahn
      go_wp2_with fail
      go_roundw
      case rel=>exact⟨m,_,by omega,by go_num,HF.out.1,HF.out.2.1,HF.out.2.2.1,h_ ⟨HF.out.2.2.2.1,_,HF.out.2.2.2.2⟩⟩
      case measure=>simp[intOf]<;>omega
theorem xg(w:World)(va vb:Value)(x y:Int)(ha:Nt w va x)(hb:Nt w vb y)(hx:x<big)(hy:y<pw^1990)(y0:y≠0):
 Calls prog 163 #[va,vb] w (rO w x y):=by
 obtain⟨p,cap,za,rfl,da,rfl,ca⟩:=ha.dg
 obtain⟨b2,aX,cap2,zb,rfl,hn⟩:=hb.pos y0
 exact Xv w p cap za b2 aX cap2 zb y da hn (iI da.wd ca rfl hx) hy
end Go.Proofs.YtnapiakfbihnjaaGreatDoor.R
