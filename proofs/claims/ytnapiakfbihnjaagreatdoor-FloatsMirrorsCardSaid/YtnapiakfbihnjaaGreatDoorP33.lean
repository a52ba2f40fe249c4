/-
  Contracts of package exact's numbers with a divisor: fraction in lowest terms, inverse.
-/
import Derived.Test.YtnapiakfbihnjaaGreatDoorP17
import Derived.Deep.RegionHeld3
set_option linter.unusedVariables false
set_option linter.unusedSimpArgs false
set_option maxRecDepth 1000000
set_option maxHeartbeats 4000000
namespace Go.Proofs.YtnapiakfbihnjaaGreatDoor
open Go.RowKit Go.Shelf Tryz
attribute [local go_sem] fQ dP
theorem CQ{n t:Int}{z:Nat}(h:n=2^z*t)(ho:n%2=1):z=0∧t=n:=by
 cases z with
 |zero=>simp at h;exact⟨rfl,h.symm⟩
 |succ z=>
  exfalso
  rw[Int.pow_succ,Int.mul_comm (2^z) 2,Int.mul_assoc]at h
  omega
theorem Pt.bt{w:World}{v:Value}{n:Int}(h:Pt w v n):v=.slice none 0 0∧n=1∨Nt w v n:=by
 rcases h with⟨h1,h2⟩|⟨b,off,cap,zs,rfl,h⟩
 ·exact .inl ⟨h2,h1⟩
 ·exact .inr h.nt
theorem Pt.shape{w:World}{v:Value}{n:Int}(h:Pt w v n): ∃bo lb cb,v=.slice bo lb cb:=by
 rcases h with⟨_,rfl⟩|⟨b,off,cap,zs,rfl,h⟩<;>exact⟨_,_,_,rfl⟩
theorem Zz(w:World)(hE:Env w)(neg:Bool)(v vd:Value)(n d iP:Int)(h:Nt w v n)(hs:n<big)(no:n%2=1)(h2:Pt w vd d)(hs2:d<big)(od:d%2=1)(ht: -1000000000<iP)(ht':iP<1000000000):
 Calls prog 133 #[.bool neg,v,vd,.int .i64 iP] w (sS w neg n d iP):=by
 rcases h2.bt with⟨rfl,rfl⟩|h2
 ·refine(TV w hE neg v n iP h hs (by omega) ht ht').mono ?_
  rintro en w' ⟨v',t,z,rfl,hv,_,hz,hb⟩
  obtain⟨rfl,rfl⟩:=CQ hz no
  obtain⟨bo,lb,cb,rfl⟩:=hv.shape
  exact⟨_,rfl,⟨_,_,_,_,_,_,by rw[show iP+((0:Nat):Int)=iP by omega],hv,.inl ⟨rfl,rfl⟩⟩,hb⟩
 ·refine(aeD w hE neg v vd n d iP h hs (by omega) h2 hs2 (by omega) ht ht').mono ?_
  rintro en w' ⟨v',vb,t,b,z,y,rfl,hv,_,hz,hvb,_,hy,hb⟩
  obtain⟨rfl,rfl⟩:=CQ hz no
  obtain⟨rfl,rfl⟩:=CQ hy od
  obtain⟨bo,lb,cb,rfl⟩:=hv.shape
  obtain⟨aU,aS,cb2,rfl⟩:=hvb.shape
  exact⟨_,rfl,⟨_,_,_,_,_,_,by rw[show iP+((0:Nat):Int)-((0:Nat):Int)=iP by omega],hv,hvb⟩,hb⟩
theorem MB(w:World)(va vd:Value)(x d:Int)(ha:Nt w va x)(x0:0<x)(hd:Bt w vd d)(hx:x<big)(hd0:0<d)(h:d∣x):
 Calls prog 128 #[va,vd] w (bf w (x/d)):=by
 rcases hd with⟨rfl,rfl⟩|⟨h1,hd⟩
 ·obtain⟨bo,lb,cb,rfl⟩:=ha.shape
  refine(wW w bo lb cb).mono ?_
  rintro e w' ⟨rfl,rfl⟩
  rw[Int.ediv_one]
  exact⟨_,rfl,ha,Below.refl _ _⟩
 ·have hle:d≤x:=Int.le_of_dvd x0 h
  obtain⟨b,off,cap,za,rfl,hA⟩:=ha.pos (by omega)
  obtain⟨b2,aX,cap2,zb,rfl,hB⟩:=hd.pos (by omega)
  have HD:=h_ (uO w _ _ x d hA.nt hB.nt hx (by omega) (by omega) hd0)
  clear ha hd hA hB
  go_enter func128,ntmps128
  go_wp2_with fail
  refine HD.out.mono ?_
  rintro en w1 ⟨v1,v2,rfl,g1,g2,g3⟩
  have HV:=h_ (And.intro g1 g3)
  clear g1 g2 g3
  go_wp2_with fail
  go_ret
  exact⟨_,rfl,HV.out.1,HV.out.2⟩
theorem ais(w:World)(va vb:Value)(x y:Int)(ha:Nt w va x)(hb:Nt w vb y)(x0:0<x)(y0:0<y)(hx:x<big)(hy:y<big)(hs:x<pw^39∨y<pw^39):
 Calls prog 129 #[va,vb] w (bf w (x*y)):=by
 obtain⟨b,off,cap,za,rfl,hA⟩:=ha.pos (by omega)
 obtain⟨b2,aX,cap2,zb,rfl,hB⟩:=hb.pos (by omega)
 have Ap:za.length<40∨zb.length<40:=by
  rcases hs with h|h
  ·left;have:=Bd hA 39 h;omega
  ·right;have:=Bd hB 39 h;omega
 have HM:=h_ (Gz w b off cap za x b2 aX cap2 zb y hA hB hx hy Ap)
 clear ha hb hA hB hs Ap
 go_enter func129,ntmps129
 go_wp2_with fail
 refine HM.out.mono ?_
 rintro en w1 ⟨v,rfl,hv,hbl⟩
 have HV:=h_ (And.intro hv hbl)
 clear hv hbl
 go_wp2_with fail
 go_ret
 exact⟨_,rfl,HV.out.1,HV.out.2⟩
theorem Xw(w:World)(hE:Env w)(v:Value)(s:Bool)(t b e:Int)(h:Nm w v s t b e)(ht:t<big)(t0:0<t)(ot:t%2=1)(hb:b<big)(b0:0<b)(ob:b%2=1)(e0: -1000000≤e)(e1:e≤1000000):
 Calls prog 156 #[v] w (sS w s b t (-e)):=by
 obtain⟨bo,lb,cb,aU,aS,cb2,rfl,h1,h2⟩:=h.ex
 have hn:=h2.isNone (by omega)
 have hFR: ∀(W:World) (v':Value),Below w.heap.size w W→Nt W v' b→Calls prog 133 #[.bool s,v',.slice bo lb cb,.int .i64 (-e)] W (sS W s b t (-e)):=fun W v' hW hv=>
  Zz W (hE.below hW) s v' _ b t (-e) hv hb ob (.Lp (h1.below hW) (by omega)) ht ot (by omega) (by omega)
 have HFR:=h_ hFR
 have H2:=h_ h2
 have B0:=h_ b0
 clear h hE ht ot hb ob h1 hFR b0
 generalize hd1:decide (b=1)=d1 at hn
 have HD1:=h_ hd1
 clear hd1
 cases d1
 case' true=>
  obtain rfl:aU=none:=by simpa using hn
  have HV:Hid (b=1):=h_ (of_decide_eq_true HD1.out)
  clear H2 h2
 case' false=>
  obtain⟨a2,rfl⟩: ∃a,aU=some a:=by
   cases aU with
   |none=>simp at hn
   |some a=>exact⟨a,rfl⟩
  have HV:Hid (Nt w (.slice (some a2) aS cb2) b):=h_ (by
   rcases h2 with⟨h1,_⟩|⟨_,h1⟩
   ·exact absurd h1 (of_decide_eq_false HD1.out)
   ·exact h1)
  clear h2
 all_goals
  clear hn
  go_enter func156,ntmps156
  go_wp2_with fail
 ·obtain⟨hA,hB,hW0⟩:=oG w #[.bool s,.slice bo lb cb,.slice (some a2) aS cb2,.int .i64 e] #[.bool false,.slice none 0 0,.slice none 0 0,.int .i64 0] 45
  have HX:=h_ (And.intro hW0 hB)
  clear hA hB hW0
  refine(HFR.out _ _ HX.out.1 (HV.out.below HX.out.1)).mono ?_
  rintro en w1 ⟨v,rfl,hn,hb⟩
  obtain⟨o3,l3,c3,o4,l4,c4,rfl,hn1,hn2⟩:=hn.ex
  have HN:=h_ hn
  have hB2:=HX.out.2.below hb
  have HB2:=h_ hB2
  have HW2:=h_ (HX.out.1.trans (hb.mono HX.out.1.size))
  clear hn hn1 hn2 hb
  have cB:=hB2.cell
  have fB:=hB2.free
  have lB:=hB2.lt
  clear hB2
  go_wp2_with fail
  refine bodyPost_ret (v:=.agg #[.bool s,.slice o3 l3 c3,.slice o4 l4 c4,.int .i64 (-e)]) (by simp[results,results156,go_sem,cB,lB]) rfl ?_
  have ho:=jd.only (w.heap.size+1) w1 s o3 l3 c3 o4 l4 c4 (-e)
  exact⟨_,rfl,HN.out.only ho HB2.out.noW,HW2.out.trans (ho.below HW2.out.size (by omega))⟩
 ·obtain⟨hA,hB,hW0⟩:=oG w #[.bool s,.slice bo lb cb,.slice none aS cb2,.int .i64 e] #[.bool false,.slice none 0 0,.slice none 0 0,.int .i64 0] 45
  have HX:=h_ (And.intro (hW0.alloc hW0.size (.cells #[.int .u64 1] 24)) (hB.alloc (.cells #[.int .u64 1] 24)))
  have HO:=h_ (TW ((w.alloc (.cells #[.bool s,.slice bo lb cb,.slice none aS cb2,.int .i64 e] 45)).alloc (.cells #[.bool false,.slice none 0 0,.slice none 0 0,.int .i64 0] 45)))
  rw[World.size_alloc,World.size_alloc]at HO
  clear hA hB hW0
  refine(HFR.out _ _ HX.out.1 (by rw[HV.out];exact HO.out)).mono ?_
  rintro en w1 ⟨v,rfl,hn,hb⟩
  obtain⟨o3,l3,c3,o4,l4,c4,rfl,hn1,hn2⟩:=hn.ex
  have HN:=h_ hn
  have hB2:=HX.out.2.below hb
  have HB2:=h_ hB2
  have HW2:=h_ (HX.out.1.trans (hb.mono HX.out.1.size))
  clear hn hn1 hn2 hb
  have cB:=hB2.cell
  have fB:=hB2.free
  have lB:=hB2.lt
  clear hB2
  go_wp2_with fail
  refine bodyPost_ret (v:=.agg #[.bool s,.slice o3 l3 c3,.slice o4 l4 c4,.int .i64 (-e)]) (by simp[results,results156,go_sem,cB,lB]) rfl ?_
  have ho:=jd.only (w.heap.size+1) w1 s o3 l3 c3 o4 l4 c4 (-e)
  exact⟨_,rfl,HN.out.only ho HB2.out.noW,HW2.out.trans (ho.below HW2.out.size (by omega))⟩
end Go.Proofs.YtnapiakfbihnjaaGreatDoor
namespace Go.Proofs.YtnapiakfbihnjaaGreatDoor
open Go.RowKit Go.Shelf Tryz
attribute [local go_sem] fQ dP
structure sG(w W:World)(g:Nat)(A B C:Array Value):Prop where
 bel:Below w.heap.size w W
 a:Box W g A
 b:Box W (g+1) B
 c:Box W (g+1+1) C
theorem sG.next{w W W':World}{g:Nat}{A B C:Array Value}(h:sG w W g A B C)(hb:Below W.heap.size W W'):sG w W' g A B C:=
 ⟨h.bel.trans (hb.mono h.bel.size),h.a.below hb,h.b.below hb,h.c.below hb⟩
theorem bz(w:World):Below w.heap.size w w.drew:=(aY.step w 1).below _
theorem Zn(w:World)(hE:Env w)(sx sy:Bool)(a:Addr)(la ca:Nat)(aU:Option Addr)(aS cb2:Nat)(c:Addr)(lc cc:Nat)(bo3:Option Addr)(nO cb3:Nat)(tx bx ex ty by' ey p q:Int)
 (hx:Nt w (.slice (some a) la ca) tx) (hbx:Pt w (.slice aU aS cb2) bx) (hy:Nt w (.slice (some c) lc cc) ty) (hby:Pt w (.slice bo3 nO cb3) by')
 (ox:tx%2=1) (oy:ty%2=1) (obx:bx%2=1) (oby:by'%2=1) (e0: -1000000≤ex) (e1:ex≤1000000) (e2: -1000000≤ey) (e3:ey≤1000000)
 (st:tx<pw^39∨ty<pw^39) (sb:bx<pw^39∨by'<pw^39) (bt:tx*ty<big) (bb:bx*by'<big) (hp:((Int.gcd tx by':Nat):Int)=p) (hq:((Int.gcd ty bx:Nat):Int)=q):
 Calls prog 94 #[.agg #[.bool sx,.slice (some a) la ca,.slice aU aS cb2,.int .i64 ex],.agg #[.bool sy,.slice (some c) lc cc,.slice bo3 nO cb3,.int .i64 ey]] w (sS w (sx !=sy) (tx/p*(ty/q)) (bx/q*(by'/p)) (ex+ey)):=by
 have Qa:0<tx:=by have:=hx.kM;omega
 have Je:0<ty:=by have:=hy.kM;omega
 have bx0:=hbx.pos
 have by0:=hby.pos
 have ltm: ∀{x y:Int},0<x→0<y→x*y<big→x<big∧y<big:=fun{x y} h1 h2 h3=>by
  have a1:=Int.mul_le_mul_of_nonneg_left (show 1≤y by omega) (Int.le_of_lt h1)
  have a2:=Int.mul_le_mul_of_nonneg_right (show 1≤x by omega) (Int.le_of_lt h2)
  omega
 obtain⟨txb,tyb⟩:=ltm Qa Je bt
 obtain⟨bxb,byb⟩:=ltm bx0 by0 bb
 have p0:0<p:=by have:0<Int.gcd tx by':=Nat.pos_of_ne_zero (by rw[Ne,Int.gcd_eq_zero_iff];omega);omega
 have q0:0<q:=by have:0<Int.gcd ty bx:=Nat.pos_of_ne_zero (by rw[Ne,Int.gcd_eq_zero_iff];omega);omega
 have d1:p∣tx:=hp▸Int.gcd_dvd_left ..
 have d2:p∣by':=hp▸Int.gcd_dvd_right ..
 have d3:q∣ty:=hq▸Int.gcd_dvd_left ..
 have d4:q∣bx:=hq▸Int.gcd_dvd_right ..
 have dle: ∀{x d:Int},0<x→0<d→d∣x→x/d≤x:=fun{x d} h1 h2 h3=>Int.ediv_le_self _ (Int.le_of_lt h1)
 have K1:Hid (∀W,Below w.heap.size w W→Calls prog 127 #[.slice (some a) la ca,.slice bo3 nO cb3] W (QH W p)):=h_ fun W hW=>by
  rw[←hp];exact Ls W (hE.below hW) _ _ tx by' (.Lp (hx.below hW) (by omega)) (hby.below hW) txb byb (.inl ox)
 have K2:Hid (∀W,Below w.heap.size w W→Calls prog 127 #[.slice (some c) lc cc,.slice aU aS cb2] W (QH W q)):=h_ fun W hW=>by
  rw[←hq];exact Ls W (hE.below hW) _ _ ty bx (.Lp (hy.below hW) (by omega)) (hbx.below hW) tyb bxb (.inl oy)
 have K3:Hid (∀W vd,Below w.heap.size w W→Bt W vd p→Calls prog 128 #[.slice (some a) la ca,vd] W (bf W (tx/p))):=h_ fun W vd hW hd=>
  MB W _ vd tx p (hx.below hW) Qa hd txb p0 d1
 have K4:Hid (∀W vd,Below w.heap.size w W→Bt W vd q→Calls prog 128 #[.slice (some c) lc cc,vd] W (bf W (ty/q))):=h_ fun W vd hW hd=>
  MB W _ vd ty q (hy.below hW) Je hd tyb q0 d3
 have K5:Hid (∀W vd,Below w.heap.size w W→Bt W vd q→Calls prog 128 #[.slice aU aS cb2,vd] W (Ij W (bx/q))):=h_ fun W vd hW hd=>
  I8 W _ vd bx q (hbx.below hW) hd bxb q0 d4
 have K6:Hid (∀W vd,Below w.heap.size w W→Bt W vd p→Calls prog 128 #[.slice bo3 nO cb3,vd] W (Ij W (by'/p))):=h_ fun W vd hW hd=>
  I8 W _ vd by' p (hby.below hW) hd byb p0 d2
 have A1:=div_pos Qa p0 d1
 have A2:=div_pos Je q0 d3
 have A3:=div_pos bx0 q0 d4
 have A4:=div_pos by0 p0 d2
 have B1:=dle Qa p0 d1
 have B2:=dle Je q0 d3
 have B3:=dle bx0 q0 d4
 have B4:=dle by0 p0 d2
 have O1:=IB (uD ox d1) (uD oy d3)
 have O2:=IB (uD obx d4) (uD oby d2)
 have Uh: ∀{x y u v:Int},0<x→0<y→x≤u→y≤v→u*v<big→x*y<big:=fun{x y u v} h1 h2 h3 h4 h5=>by
  have a1:=Int.mul_le_mul h3 h4 (Int.le_of_lt h2) (show 0≤u by omega)
  omega
 have M1:tx/p*(ty/q)<big:=Uh A1 A2 B1 B2 bt
 have M2:bx/q*(by'/p)<big:=Uh A3 A4 B3 B4 bb
 have K7:Hid (∀W va vb,Nt W va (tx/p)→Nt W vb (ty/q)→Calls prog 129 #[va,vb] W (bf W (tx/p*(ty/q)))):=h_ fun W va vb h1 h2=>
  ais W va vb _ _ h1 h2 A1 A2 (by omega) (by omega) (by omega)
 have K8:Hid (∀W va vb,Pt W va (bx/q)→Pt W vb (by'/p)→Calls prog 129 #[va,vb] W (Ij W (bx/q*(by'/p)))):=h_ fun W va vb h1 h2=>
  times_any W va vb _ _ h1 h2 (by omega) (by omega) (by omega)
 have K9:Hid (∀W va vb neg,Below w.heap.size w W→Nt W va (tx/p*(ty/q))→Pt W vb (bx/q*(by'/p))→Calls prog 133 #[.bool neg,va,vb,.int .i64 (ex+ey)] W (sS W neg (tx/p*(ty/q)) (bx/q*(by'/p)) (ex+ey))):=h_ fun W va vb neg hW h1 h2=>
  Zz W (hE.below hW) neg va vb _ _ (ex+ey) h1 M1 O1 h2 M2 O2 (by omega) (by omega)
 generalize tx/p*(ty/q)=TT' at*
 generalize bx/q*(by'/p)=BB' at*
 generalize tx/p=T1 at*
 generalize ty/q=T2 at*
 generalize bx/q=B1' at*
 generalize by'/p=B2' at*
 clear hE hx hy hbx hby ox oy obx oby st sb bt bb hp hq Qa Je bx0 by0 ltm txb tyb bxb byb d1 d2 d3 d4 dle A1 A2 A3 A4 B1 B2 B3 B4 O1 O2 Uh M1 M2 p0 q0
 go_enter func94,ntmps94
 go_wp2_with fail
 obtain⟨hA,hB,hC,hW0⟩:=zS w #[.bool sx,.slice (some a) la ca,.slice aU aS cb2,.int .i64 ex] #[.bool sy,.slice (some c) lc cc,.slice bo3 nO cb3,.int .i64 ey] #[.bool false,.slice none 0 0,.slice none 0 0,.int .i64 0] 45
 obtain⟨g,hg⟩: ∃g,w.heap.size=g:=⟨_,rfl⟩
 have HT0:sG w _ w.heap.size _ _ _:=⟨hW0,hA,hB,hC⟩
 rw[hg]at HT0
 have HG:=h_ hg
 rw[hg]at⊢
 clear hA hB hC hW0 hg
 generalize ((w.alloc (.cells #[.bool sx,.slice (some a) la ca,.slice aU aS cb2,.int .i64 ex] 45)).alloc (.cells #[.bool sy,.slice (some c) lc cc,.slice bo3 nO cb3,.int .i64 ey] 45)).alloc (.cells #[.bool false,.slice none 0 0,.slice none 0 0,.int .i64 0] 45)=W0 at HT0⊢
 have hst: ∀(W1 W2:World),Hid (sG w W1 g #[.bool sx,.slice (some a) la ca,.slice aU aS cb2,.int .i64 ex] #[.bool sy,.slice (some c) lc cc,.slice bo3 nO cb3,.int .i64 ey] #[.bool false,.slice none 0 0,.slice none 0 0,.int .i64 0])→Below W1.heap.size W1 W2→Hid (sG w W2 g #[.bool sx,.slice (some a) la ca,.slice aU aS cb2,.int .i64 ex] #[.bool sy,.slice (some c) lc cc,.slice bo3 nO cb3,.int .i64 ey] #[.bool false,.slice none 0 0,.slice none 0 0,.int .i64 0])∧W2.cell? ⟨g,0,none⟩=some (Value.bool sx)∧W2.cell? ⟨g,1,none⟩=some (.slice (some a) la ca)∧W2.cell? ⟨g,2,none⟩=some (.slice aU aS cb2)∧W2.cell? ⟨g,3,none⟩=some (.int .i64 ex)∧W2.cell? ⟨(g+1),0,none⟩=some (Value.bool sy)∧W2.cell? ⟨(g+1),1,none⟩=some (.slice (some c) lc cc)∧W2.cell? ⟨(g+1),2,none⟩=some (.slice bo3 nO cb3)∧W2.cell? ⟨(g+1),3,none⟩=some (.int .i64 ey):=fun W1 W2 h hb=>
  have h2:=h.out.next hb
  ⟨h_ h2,h2.a.cell 0,h2.a.cell 1,h2.a.cell 2,h2.a.cell 3,h2.b.cell 0,h2.b.cell 1,h2.b.cell 2,h2.b.cell 3⟩
 have HSt:=h_ hst
 clear hst
 obtain⟨H0,r0,r1,r2,r3,r4,r5,r6,r7⟩:Hid (sG w W0.drew g #[.bool sx,.slice (some a) la ca,.slice aU aS cb2,.int .i64 ex] #[.bool sy,.slice (some c) lc cc,.slice bo3 nO cb3,.int .i64 ey] #[.bool false,.slice none 0 0,.slice none 0 0,.int .i64 0])∧W0.drew.cell? ⟨g,0,none⟩=some (Value.bool sx)∧W0.drew.cell? ⟨g,1,none⟩=some (.slice (some a) la ca)∧W0.drew.cell? ⟨g,2,none⟩=some (.slice aU aS cb2)∧W0.drew.cell? ⟨g,3,none⟩=some (.int .i64 ex)∧W0.drew.cell? ⟨(g+1),0,none⟩=some (Value.bool sy)∧W0.drew.cell? ⟨(g+1),1,none⟩=some (.slice (some c) lc cc)∧W0.drew.cell? ⟨(g+1),2,none⟩=some (.slice bo3 nO cb3)∧W0.drew.cell? ⟨(g+1),3,none⟩=some (.int .i64 ey):=HSt.out _ _ (h_ HT0) ((aY.step W0 1).below _)
 have c0:=HT0.a.cell
 have c1:=HT0.b.cell
 clear HT0
 go_region_held3 (fun w'=>w'.cell? ⟨g,0,none⟩=some (Value.bool sx)∧w'.cell? ⟨g,1,none⟩=some (.slice (some a) la ca)∧w'.cell? ⟨g,2,none⟩=some (.slice aU aS cb2)∧w'.cell? ⟨g,3,none⟩=some (.int .i64 ex)∧w'.cell? ⟨(g+1),0,none⟩=some (Value.bool sy)∧w'.cell? ⟨(g+1),1,none⟩=some (.slice (some c) lc cc)∧w'.cell? ⟨(g+1),2,none⟩=some (.slice bo3 nO cb3)∧w'.cell? ⟨(g+1),3,none⟩=some (.int .i64 ey)) (first|exact⟨v0,v1,v2,v3,v4,v5,v6,v7⟩|exact⟨u0,u1,u2,u3,u4,u5,u6,u7⟩|exact⟨r0,r1,r2,r3,r4,r5,r6,r7⟩)
  (first
   |(go_at_call 127;(with_reducible refine(K1.out _ H0.out.bel).mono ?_);rintro en w3 ⟨v3,rfl,hv,hb⟩;obtain⟨o4,l4,c4,rfl⟩:=hv.shape;obtain⟨H1,u0,u1,u2,u3,u4,u5,u6,u7⟩:=HSt.out _ _ H0 hb;have V1:=h_ hv;clear hv hb)
   |(go_at_call 127;(with_reducible refine(K2.out _ H1.out.bel).mono ?_);rintro en w4 ⟨v4,rfl,hv,hb⟩;obtain⟨o5,l5,c5,rfl⟩:=hv.shape;obtain⟨H2,v0,v1,v2,v3,v4,v5,v6,v7⟩:=HSt.out _ _ H1 hb;have V2:=h_ (And.intro hv (V1.out.below hb));clear hv hb))
 clear c0 c1 r0 r1 r2 r3 r4 r5 r6 r7 u0 u1 u2 u3 u4 u5 u6 u7 v0 v1 v2 v3 v4 v5 v6 v7
 have VQ:=h_ V2.out.1
 have VP:=h_ V2.out.2
 clear V1 V2
 go_wp2_with fail
 obtain⟨HA0,rA0,rA1,rA2,rA3,rA4,rA5,rA6,rA7⟩:Hid (sG w w4.drew g #[.bool sx,.slice (some a) la ca,.slice aU aS cb2,.int .i64 ex] #[.bool sy,.slice (some c) lc cc,.slice bo3 nO cb3,.int .i64 ey] #[.bool false,.slice none 0 0,.slice none 0 0,.int .i64 0])∧w4.drew.cell? ⟨g,0,none⟩=some (Value.bool sx)∧w4.drew.cell? ⟨g,1,none⟩=some (.slice (some a) la ca)∧w4.drew.cell? ⟨g,2,none⟩=some (.slice aU aS cb2)∧w4.drew.cell? ⟨g,3,none⟩=some (.int .i64 ex)∧w4.drew.cell? ⟨(g+1),0,none⟩=some (Value.bool sy)∧w4.drew.cell? ⟨(g+1),1,none⟩=some (.slice (some c) lc cc)∧w4.drew.cell? ⟨(g+1),2,none⟩=some (.slice bo3 nO cb3)∧w4.drew.cell? ⟨(g+1),3,none⟩=some (.int .i64 ey):=HSt.out _ _ H2 (bz w4)
 have azg:=h_ (VQ.out.below (bz w4))
 have atV:=h_ (VP.out.below (bz w4))
 go_region_held3 (fun w'=>w'.cell? ⟨g,0,none⟩=some (Value.bool sx)∧w'.cell? ⟨g,1,none⟩=some (.slice (some a) la ca)∧w'.cell? ⟨g,2,none⟩=some (.slice aU aS cb2)∧w'.cell? ⟨g,3,none⟩=some (.int .i64 ex)∧w'.cell? ⟨(g+1),0,none⟩=some (Value.bool sy)∧w'.cell? ⟨(g+1),1,none⟩=some (.slice (some c) lc cc)∧w'.cell? ⟨(g+1),2,none⟩=some (.slice bo3 nO cb3)∧w'.cell? ⟨(g+1),3,none⟩=some (.int .i64 ey)) (first|exact⟨alL,alM,alN,alO,alP,alQ,alR,alS⟩|exact⟨alT,alU,alW,alX,alY,alZ,al0,al1⟩|exact⟨al2,al3,al6,al7,al9,ama,amb,amc⟩|exact⟨rA0,rA1,rA2,rA3,rA4,rA5,rA6,rA7⟩)
  (first
   |(go_at_call 128;(with_reducible refine(K3.out _ _ HA0.out.bel atV.out).mono ?_);rintro en GV ⟨zA1,rfl,hv,hb⟩;obtain⟨oA1,lA1,cA1,rfl⟩:=hv.shape;obtain⟨HA1,al2,al3,al6,al7,al9,ama,amb,amc⟩:=HSt.out _ _ HA0 hb;have VA1:=h_ hv;have atW:=h_ (azg.out.below hb);have azi:=h_ (atV.out.below hb);clear hv hb)
   |(go_at_call 128;(with_reducible refine(K4.out _ _ HA1.out.bel atW.out).mono ?_);rintro en BL ⟨P7,rfl,hv,hb⟩;obtain⟨Jb,lA2,Jc,rfl⟩:=hv.shape;obtain⟨HA2,alT,alU,alW,alX,alY,alZ,al0,al1⟩:=HSt.out _ _ HA1 hb;have VA2:=h_ hv;have azj:=h_ (atW.out.below hb);have azk:=h_ (azi.out.below hb);have atY:=h_ (VA1.out.below hb);clear hv hb)
   |(go_at_call 129;(with_reducible refine(K7.out _ _ _ atY.out VA2.out).mono ?_);rintro en sH ⟨L8,rfl,hv,hb⟩;obtain⟨L9,lA3,Mc,rfl⟩:=hv.shape;obtain⟨mG,alL,alM,alN,alO,alP,alQ,alR,alS⟩:=HSt.out _ _ HA2 hb;have nV:=h_ hv;have azl:=h_ (azj.out.below hb);have azm:=h_ (azk.out.below hb);have aAW:=h_ (atY.out.below hb);have aAX:=h_ (VA2.out.below hb);clear hv hb))
 clear rA0 rA1 rA2 rA3 rA4 rA5 rA6 rA7 al2 al3 al6 al7 al9 ama amb amc alT alU alW alX alY alZ al0 al1 alL alM alN alO alP alQ alR alS
 go_wp2_with fail
 obtain⟨HB0,rB0,rB1,rB2,rB3,rB4,rB5,rB6,rB7⟩:Hid (sG w sH.drew g #[.bool sx,.slice (some a) la ca,.slice aU aS cb2,.int .i64 ex] #[.bool sy,.slice (some c) lc cc,.slice bo3 nO cb3,.int .i64 ey] #[.bool false,.slice none 0 0,.slice none 0 0,.int .i64 0])∧sH.drew.cell? ⟨g,0,none⟩=some (Value.bool sx)∧sH.drew.cell? ⟨g,1,none⟩=some (.slice (some a) la ca)∧sH.drew.cell? ⟨g,2,none⟩=some (.slice aU aS cb2)∧sH.drew.cell? ⟨g,3,none⟩=some (.int .i64 ex)∧sH.drew.cell? ⟨(g+1),0,none⟩=some (Value.bool sy)∧sH.drew.cell? ⟨(g+1),1,none⟩=some (.slice (some c) lc cc)∧sH.drew.cell? ⟨(g+1),2,none⟩=some (.slice bo3 nO cb3)∧sH.drew.cell? ⟨(g+1),3,none⟩=some (.int .i64 ey):=HSt.out _ _ mG (bz sH)
 have afq:=h_ (azl.out.below (bz sH))
 have atZ:=h_ (azm.out.below (bz sH))
 have aws:=h_ (nV.out.below (bz sH))
 go_region_held3 (fun w'=>w'.cell? ⟨g,0,none⟩=some (Value.bool sx)∧w'.cell? ⟨g,1,none⟩=some (.slice (some a) la ca)∧w'.cell? ⟨g,2,none⟩=some (.slice aU aS cb2)∧w'.cell? ⟨g,3,none⟩=some (.int .i64 ex)∧w'.cell? ⟨(g+1),0,none⟩=some (Value.bool sy)∧w'.cell? ⟨(g+1),1,none⟩=some (.slice (some c) lc cc)∧w'.cell? ⟨(g+1),2,none⟩=some (.slice bo3 nO cb3)∧w'.cell? ⟨(g+1),3,none⟩=some (.int .i64 ey)) (first|exact⟨amd,ame,amf,amg,amh,ami,amj,amk⟩|exact⟨amn,amo,amq,amr,amu,amy,amz,amB⟩|exact⟨amC,amD,amE,amF,amG,amH,amI,amJ⟩|exact⟨rB0,rB1,rB2,rB3,rB4,rB5,rB6,rB7⟩)
  (first
   |(go_at_call 128;(with_reducible refine(K5.out _ _ HB0.out.bel afq.out).mono ?_);rintro en wB1 ⟨zB1,rfl,hv,hb⟩;obtain⟨oB1,lB1,cB1,rfl⟩:=hv.shape;obtain⟨HB1,amC,amD,amE,amF,amG,amH,amI,amJ⟩:=HSt.out _ _ HB0 hb;have Md:=h_ hv;have at1:=h_ (afq.out.below hb);have afr:=h_ (atZ.out.below hb);have awt:=h_ (aws.out.below hb);clear hv hb)
   |(go_at_call 128;(with_reducible refine(K6.out _ _ HB1.out.bel afr.out).mono ?_);rintro en wB2 ⟨zB2,rfl,hv,hb⟩;obtain⟨Vd,lB2,cB2,rfl⟩:=hv.shape;obtain⟨HB2,amn,amo,amq,amr,amu,amy,amz,amB⟩:=HSt.out _ _ HB1 hb;have VB2:=h_ hv;have at7:=h_ (at1.out.below hb);have aua:=h_ (afr.out.below hb);have awu:=h_ (awt.out.below hb);have auc:=h_ (Md.out.below hb);clear hv hb)
   |(go_at_call 129;(with_reducible refine(K8.out _ _ _ auc.out VB2.out).mono ?_);rintro en wB3 ⟨zB3,rfl,hv,hb⟩;obtain⟨oB3,lB3,cB3,rfl⟩:=hv.shape;obtain⟨HB3,amd,ame,amf,amg,amh,ami,amj,amk⟩:=HSt.out _ _ HB2 hb;have VB3:=h_ hv;have aAa:=h_ (at7.out.below hb);have aAb:=h_ (aua.out.below hb);have awv:=h_ (awu.out.below hb);have aAY:=h_ (auc.out.below hb);have aA1:=h_ (VB2.out.below hb);clear hv hb))
 clear rB0 rB1 rB2 rB3 rB4 rB5 rB6 rB7 amC amD amE amF amG amH amI amJ amn amo amq amr amu amy amz amB amd ame amf amg amh ami amj amk
 have cA:=HB3.out.a.cell
 have cB:=HB3.out.b.cell
 go_wp2_with fail
 refine(K9.out _ _ _ _ HB3.out.bel awv.out VB3.out).mono ?_
 rintro en wZ ⟨v,rfl,hn,hb⟩
 obtain⟨o3,l3,c3,o4',l4',c4',rfl,hn1,hn2⟩:=hn.ex
 have HN:=h_ hn
 have HF:=h_ (HB3.out.next hb)
 clear hn hn1 hn2 hb cA cB
 have cC:=HF.out.c.cell
 have fC:=HF.out.c.free
 have lC:=HF.out.c.lt
 go_wp2_with fail
 refine bodyPost_ret (v:=.agg #[.bool (sx !=sy),.slice o3 l3 c3,.slice o4' l4' c4',.int .i64 (ex+ey)]) (by simp[results,results94,go_sem,cC,lC];cases sx<;>cases sy<;>rfl) rfl ?_
 have ho:=jd.only (g+1+1) wZ (sx !=sy) o3 l3 c3 o4' l4' c4' (ex+ey)
 exact⟨_,rfl,HN.out.only ho HF.out.c.noW,HF.out.bel.trans (ho.below HF.out.bel.size (by have:=HG.out;omega))⟩
end Go.Proofs.YtnapiakfbihnjaaGreatDoor
namespace Go.Proofs.YtnapiakfbihnjaaGreatDoor
open Go.RowKit Go.Shelf
attribute [local go_sem] fQ dP
end Go.Proofs.YtnapiakfbihnjaaGreatDoor
namespace Go.Proofs.YtnapiakfbihnjaaGreatDoor
open Go.RowKit Go.Shelf Tryz
attribute [local go_sem] fQ dP
theorem Xx(w:World)(s:Bool)(bo:Option Addr)(la ca:Nat)(a:Addr)(lb cb:Nat)(t b e k q:Int)(h:Nt w (.slice bo la ca) t)(h2:Nt w (.slice (some a) lb cb) b)(he: -1000000≤e∧e≤1000000)(hk: -1000000≤k∧k≤1000000)(hq:q=k+e)(ht:t*2^q.toNat<big)(hbb:b<big)(b0:0<b):
 Calls prog 201 #[.agg #[.bool s,.slice bo la ca,.slice (some a) lb cb,.int .i64 e],.int .i64 k] w (bf w (t*2^q.toNat/2^(-q).toNat/b)):=by
 have hb:t<big:=by
  have:=h.kM
  have h2:=Int.mul_le_mul_of_nonneg_left (show(1:Int)≤2^q.toNat from au _) this
  omega
 have hu0:0≤t*2^q.toNat/2^(-q).toNat:=Int.ediv_nonneg (Int.mul_nonneg h.kM (Int.le_of_lt (au _))) (Int.le_of_lt (au _))
 have hub:t*2^q.toNat/2^(-q).toNat<big:=by
  have hn:=Int.mul_nonneg h.kM (Int.le_of_lt (au q.toNat))
  have:=Int.ediv_le_self ((2:Int)^(-q).toNat) hn
  omega
 have H:=h_ (And.intro h (And.intro hb ht))
 have H2:=h_ (And.intro h2 (And.intro hbb (And.intro b0 (And.intro hu0 hub))))
 obtain⟨e0,e1⟩:=he
 obtain⟨k0,k1⟩:=hk
 have HQ:=h_ hq
 obtain⟨m1,hm1⟩: ∃m,max q 0=m:=⟨_,rfl⟩
 obtain⟨m2,hm2⟩: ∃m,max (-q) 0=m:=⟨_,rfl⟩
 have uP:=hm1
 have uQ:=hm2
 rw[hq]at hm1 hm2
 have HM:Hid (0≤m1∧m1<3000000∧0≤m2∧m2<3000000∧m1.toNat=q.toNat∧m2.toNat=(-q).toNat):=h_ (by omega)
 clear h hb ht hq uP uQ h2 hbb b0 hu0 hub
 go_enter func201,ntmps201
 go_wp2_with fail
 have HB:Hid (Below w.heap.size w (w.alloc (.cells #[.bool s,.slice bo la ca,.slice (some a) lb cb,.int .i64 e] 45))):=h_ ((Below.refl _ _).alloc (Nat.le_refl _) _)
 refine(nT _ _ t (H.out.1.below HB.out) H.out.2.1 m1 HM.out.1 (by have:=HM.out.2.1;omega)).mono ?_
 rintro en w1 ⟨v1,rfl,hv,hb⟩
 rw[HM.out.2.2.2.2.1]at hv
 obtain⟨hc,hf,hz,hbw⟩:=iQ hb
 have HV:=h_ hv
 have HBl:=h_ hb
 have HB1:=h_ hbw
 clear hv hb hbw hf
 go_wp2_with fail
 refine(AY w1 _ _ HV.out H.out.2.2 m2 HM.out.2.2.1 (by have:=HM.out.2.2.2.1;omega)).mono ?_
 rintro en w2 ⟨v2,rfl,hv2,hb2⟩
 rw[HM.out.2.2.2.2.2]at hv2
 obtain⟨hc2,hf2,hz2,hbw2⟩:=iQ (HBl.out.trans (hb2.mono HBl.out.size))
 have sQ:=h_ hv2
 have HB2:=h_ hbw2
 clear hv2 hb2 hbw2 hf2 hc hz
 go_wp2_with fail
 refine(uO w2 _ _ _ b sQ.out (H2.out.1.below HB2.out) H2.out.2.2.2.2 H2.out.2.1 H2.out.2.2.2.1 H2.out.2.2.1).mono ?_
 rintro en w3 ⟨v3,v4,rfl,hv3,_,hb3⟩
 have HV3:=h_ hv3
 have HB3:=h_ (HB2.out.trans (hb3.mono HB2.out.size))
 clear hv3 hb3
 go_wp2_with fail
 go_ret
 exact⟨_,rfl,HV3.out,HB3.out⟩
theorem abN(w:World)(hE:Env w)(s:Bool)(bo:Option Addr)(la ca:Nat)(a:Addr)(lb cb:Nat)(t b e:Int)(ht:Nt w (.slice bo la ca) t)(hb:Nt w (.slice (some a) lb cb) b)(b1:b≠1)(b0:0<b)(hbig:t*2^e.toNat+1<big)(hbb:b<big)(e0: -1000000≤e)(e1:e≤1000000)
 (u R:Int) (hu:t*2^e.toNat/2^(-e).toNat/b=u) (hd:R=if s then-(u+1)else u):
 Calls prog 158 #[.agg #[.bool s,.slice bo la ca,.slice (some a) lb cb,.int .i64 e]] w (jc w R 0):=by
 have HE:=h_ hE
 have hall:Hid (∀W,Below w.heap.size w W→Calls prog 160 #[.agg #[.bool s,.slice bo la ca,.slice (some a) lb cb,.int .i64 e]] W (wo W false)):=h_ (fun W hW=>by
  have:=uu W _ s t b e ⟨_,_,_,_,_,_,rfl,ht.below hW,.inr ⟨b1,hb.below hW⟩⟩ (by omega)
  rwa [decide_eq_false b1,Bool.false_and]at this)
 have hsc:Hid (∀W,Below w.heap.size w W→Calls prog 201 #[.agg #[.bool s,.slice bo la ca,.slice (some a) lb cb,.int .i64 e],.int .i64 0] W (bf W u)):=h_ (fun W hW=>by
  have:=Xx W s bo la ca a lb cb t b e 0 e (ht.below hW) (hb.below hW) ⟨e0,e1⟩ (by omega) (by omega) (by omega) hbb b0
  rwa [hu]at this)
 have hlt:Hid (u+1<big∧u<big):=h_ (by
  have h0:=Int.mul_nonneg ht.kM (Int.le_of_lt (au e.toNat))
  have h1:=Int.ediv_le_self ((2:Int)^(-e).toNat) h0
  have h2:0≤t*2^e.toNat/2^(-e).toNat:=Int.ediv_nonneg h0 (Int.le_of_lt (au _))
  have h3:=Int.ediv_le_self b h2
  omega)
 have HD:=h_ hd
 clear hE ht hb b1 b0 hbig hbb hu hd
 cases s
 ·go_enter func158,ntmps158
  go_wp2_with fail
  obtain⟨hA,hB,hW0⟩:=oG w #[.bool false,.slice bo la ca,.slice (some a) lb cb,.int .i64 e] #[.bool false,.slice none 0 0,.slice none 0 0,.int .i64 0] 45
  have HT2:Hid (Two w _ w.heap.size _ _):=h_ ⟨hW0,hA,hB⟩
  clear hA hB hW0
  refine(hall.out _ HT2.out.1).mono ?_
  rintro en w1 ⟨rfl,hb⟩
  have HT3:=h_ (HT2.out.next hb)
  clear hb
  have cA:=HT3.out.2.1.cell
  go_wp2_with fail
  refine(hsc.out _ HT3.out.1).mono ?_
  rintro en w2 ⟨v2,rfl,hv,hb⟩
  have HT4:=h_ (HT3.out.next hb)
  have HV:=h_ hv
  clear hb hv cA
  go_wp2_with fail
  refine(A8 w2 (HE.out.below HT4.out.1) false v2 u HV.out hlt.out.2).mono ?_
  rintro en w3 ⟨v3,rfl,hv,hb⟩
  obtain⟨s3,o3,l3,c3,o32,l32,c32,x3,rfl⟩:=hv.shape
  have HT5:=h_ (HT4.out.next hb)
  have HV3:=h_ hv
  clear hb hv
  have cB:=HT5.out.2.2.cell
  have fB:=HT5.out.2.2.free
  have lB:=HT5.out.2.2.lt
  go_wp2_with fail
  refine bodyPost_ret (v:=.agg #[.bool s3,.slice o3 l3 c3,.slice o32 l32 c32,.int .i64 x3]) (by simp[results,results158,go_sem,cB,lB]) rfl ?_
  have ho:=jd.only (w.heap.size+1) w3 s3 o3 l3 c3 o32 l32 c32 x3
  have hn:=HV3.out.only ho HT5.out.2.2.noW
  have hh:R=sg false u:=HD.out
  rw[←hh]at hn
  exact⟨_,rfl,hn,HT5.out.1.trans (ho.below HT5.out.1.size (by omega))⟩
 ·go_enter func158,ntmps158
  go_wp2_with fail
  obtain⟨hA,hB,hW0⟩:=oG w #[.bool true,.slice bo la ca,.slice (some a) lb cb,.int .i64 e] #[.bool false,.slice none 0 0,.slice none 0 0,.int .i64 0] 45
  have HT2:Hid (Two w _ w.heap.size _ _):=h_ ⟨hW0,hA,hB⟩
  clear hA hB hW0
  refine(hall.out _ HT2.out.1).mono ?_
  rintro en w1 ⟨rfl,hb⟩
  have HT3:=h_ (HT2.out.next hb)
  clear hb
  have cA:=HT3.out.2.1.cell
  go_wp2_with fail
  refine(hsc.out _ HT3.out.1).mono ?_
  rintro en w2 ⟨v2,rfl,hv,hb⟩
  have HT4:=h_ (HT3.out.next hb)
  have HV:=h_ hv
  clear hb hv cA
  go_wp2_with fail
  refine(O7 w2 v2 u HV.out hlt.out.2).mono ?_
  rintro en w2' ⟨v2',rfl,hv,hb⟩
  have Ua:=h_ (HT4.out.next hb)
  have HV':=h_ hv
  clear hb hv
  go_wp2_with fail
  refine(A8 w2' (HE.out.below Ua.out.1) true v2' (u+1) HV'.out hlt.out.1).mono ?_
  rintro en w3 ⟨v3,rfl,hv,hb⟩
  obtain⟨s3,o3,l3,c3,o32,l32,c32,x3,rfl⟩:=hv.shape
  have HT5:=h_ (Ua.out.next hb)
  have HV3:=h_ hv
  clear hb hv
  have cB:=HT5.out.2.2.cell
  have fB:=HT5.out.2.2.free
  have lB:=HT5.out.2.2.lt
  go_wp2_with fail
  refine bodyPost_ret (v:=.agg #[.bool s3,.slice o3 l3 c3,.slice o32 l32 c32,.int .i64 x3]) (by simp[results,results158,go_sem,cB,lB]) rfl ?_
  have ho:=jd.only (w.heap.size+1) w3 s3 o3 l3 c3 o32 l32 c32 x3
  have hn:=HV3.out.only ho HT5.out.2.2.noW
  have hh:R=sg true (u+1):=HD.out
  rw[←hh]at hn
  exact⟨_,rfl,hn,HT5.out.1.trans (ho.below HT5.out.1.size (by omega))⟩
theorem Qr.dr{s:Bool}{t e K k:Int}(h:Qr s t 1 e K 1 k):Dr s t e K k:=by
 obtain⟨_,h⟩:=h
 rcases h with⟨rfl,rfl,_,rfl,rfl⟩|⟨ot,t0,_,_,_,i,j,he,hk⟩
 ·exact .inl ⟨rfl,rfl,rfl,rfl⟩
 ·refine .inr ⟨ot,t0,i-j,?_,?_⟩
  all_goals
   rw[Int.mul_one,Int.mul_one]at hk
   have hij:j≤i:=by
    apply Classical.byContradiction
    intro hn
    obtain⟨d,rfl⟩: ∃d,j=i+(d+1):=⟨j-i-1,by omega⟩
    rw[Int.pow_add,Int.mul_comm (2^i),←Int.mul_assoc]at hk
    have h2:=Int.eq_of_mul_eq_mul_right (EH i) hk
    rw[Int.pow_succ,Int.mul_comm (2^d) 2,←Int.mul_assoc,Int.mul_comm K 2,Int.mul_assoc]at h2
    cases s
    ·have e:sg false t=t:=rfl
     rw[e]at h2;omega
    ·have e:sg true t= -t:=rfl
     rw[e]at h2;omega
  ·omega
  ·obtain⟨d,rfl⟩:=Nat.exists_eq_add_of_le hij
   rw[Int.pow_add,Int.mul_comm (2^j),←Int.mul_assoc]at hk
   have h2:=Int.eq_of_mul_eq_mul_right (EH j) hk
   rw[←h2];congr 2;omega
theorem Qn.dn{w:World}{v:Value}{K k:Int}(h:Qn w v K 1 k):Dn w v K k:=by
 obtain⟨s,t,b,e,h1,h2⟩:=h
 have hb:=h2.bounds
 obtain rfl:b=1:=by omega
 exact⟨s,t,e,h1,h2.dr⟩
theorem Dn.qn{w:World}{v:Value}{K k:Int}(h:Dn w v K k):Qn w v K 1 k:=by
 obtain⟨s,t,e,h1,h2⟩:=h
 exact⟨s,t,1,e,h1,h2.qr⟩
def qs:Int:=2^2400
theorem abO:qs<pw^39:=by
 unfold qs
 rw[lI,show 64*39=2400+96 from rfl,Int.pow_add]
 have h:=au 2400
 have h2:(1:Int)<2^96:=by decide
 have:=Int.mul_lt_mul_of_pos_left h2 h
 omega
end Go.Proofs.YtnapiakfbihnjaaGreatDoor
namespace Go.Proofs.YtnapiakfbihnjaaGreatDoor
open Go.RowKit Go.Shelf Tryz
attribute [local go_sem] fQ dP
theorem afs(w:World)(sx sy:Bool)(bo:Option Addr)(lb cb:Nat)(aU:Option Addr)(aS cb2:Nat)(bo3:Option Addr)(nO cb3:Nat)(ex ey:Int):
 Calls prog 94 #[.agg #[.bool sx,.slice none 0 0,.slice bo lb cb,.int .i64 ex],.agg #[.bool sy,.slice aU aS cb2,.slice bo3 nO cb3,.int .i64 ey]] w
  fun en w'=>en=.returned (.agg #[.bool false,.slice none 0 0,.slice none 0 0,.int .i64 0])∧Below w.heap.size w w':=by
 go_enter func94,ntmps94
 go_wp2_with fail
 refine bodyPost_ret (v:=.agg #[.bool false,.slice none 0 0,.slice none 0 0,.int .i64 0]) (by simp[results,results94,go_sem]) rfl ?_
 exact⟨rfl,(((Below.refl _ _).alloc (Nat.le_refl _) _).alloc (by simp) _).alloc (by simp;omega) _⟩
theorem aft(w:World)(sx sy:Bool)(a:Addr)(la ca:Nat)(bo:Option Addr)(lb cb:Nat)(bo3:Option Addr)(nO cb3:Nat)(ex ey:Int):
 Calls prog 94 #[.agg #[.bool sx,.slice (some a) la ca,.slice bo lb cb,.int .i64 ex],.agg #[.bool sy,.slice none 0 0,.slice bo3 nO cb3,.int .i64 ey]] w
  fun en w'=>en=.returned (.agg #[.bool false,.slice none 0 0,.slice none 0 0,.int .i64 0])∧Below w.heap.size w w':=by
 go_enter func94,ntmps94
 go_wp2_with fail
 refine bodyPost_ret (v:=.agg #[.bool false,.slice none 0 0,.slice none 0 0,.int .i64 0]) (by simp[results,results94,go_sem]) rfl ?_
 exact⟨rfl,(((Below.refl _ _).alloc (Nat.le_refl _) _).alloc (by simp) _).alloc (by simp;omega) _⟩
theorem NP{x y a b:Int}(h1:x<a)(h2:y<b)(x0:0≤x)(y0:0≤y):x*y<a*b:=by
 have p1:=Int.mul_le_mul_of_nonneg_left (show y≤b-1 by omega) x0
 have p2:=Int.mul_le_mul_of_nonneg_right (show x≤a-1 by omega) (show 0≤b by omega)
 rw[Int.mul_sub,Int.mul_one]at p1
 rw[Int.sub_mul,Int.one_mul]at p2
 omega
def fV(K D k:Int):Prop:= -qs<K∧K<qs∧0<D∧D<qs∧ -5000≤k∧k≤5000
instance (K D k:Int):Decidable (fV K D k):=by unfold fV;infer_instance
theorem Vo:qs*qs<big:=by
 have h1:=NP abO abO (Int.le_of_lt (au 2400)) (Int.le_of_lt (au 2400))
 have h2:pw^39*pw^39≤big:=by rw[←Int.pow_add];exact bT (by omega)
 omega
theorem fV.ql{K D k:Int}(h:fV K D k){s:Bool}{t b e:Int}(hq:Qr s t b e K D k):0≤t∧t<qs∧0<b∧b<qs∧b%2=1∧ -7400≤e∧e≤7400∧(t≠0→t%2=1)∧(t=0→s=false∧b=1∧e=0∧K=0):=by
 obtain⟨k1,k2,k3,k4,k5,k6⟩:=h
 have hb:=hq.bounds
 have he:=hq.exp (n:=2400) (by show _<qs;omega) k4
 obtain⟨_,hq⟩:=hq
 rcases hq with⟨rfl,rfl,rfl,rfl,rfl⟩|⟨ot,t0,ob,pb,_⟩
 ·exact⟨by omega,au _,by omega,by omega,by decide,by omega,by omega,by omega,fun _=>⟨rfl,rfl,rfl,rfl⟩⟩
 ·exact⟨by omega,by omega,by omega,by omega,ob,by omega,by omega,fun _=>ot,fun h=>by omega⟩
theorem Va(w:World)(hE:Env w)(vx vy:Value)(K D k L F l:Int)(hx:Qn w vx K D k)(hy:Qn w vy L F l)(ix:fV K D k)(iy:fV L F l):
 Calls prog 94 #[vx,vy] w (LV w (K*L) (D*F) (k+l)):=by
 obtain⟨sx,tx,bx,ex,nx,dx⟩:=hx
 obtain⟨sy,ty,by',ey,ny,dy⟩:=hy
 obtain⟨x1,x2,x3,x4,x5,x6,x7,x8,x9⟩:=ix.ql dx
 obtain⟨y1,y2,y3,y4,y5,y6,y7,y8,y9⟩:=iy.ql dy
 obtain⟨bo,lb,cb,aU,aS,cb2,rfl,hx,hbx⟩:=nx.ex
 obtain⟨co,lc,cc,co2,lc2,cc2,rfl,hy,hby⟩:=ny.ex
 have zero: ∀w',Below w.heap.size w w'→K*L=0→LV w (K*L) (D*F) (k+l) (.returned (.agg #[.bool false,.slice none 0 0,.slice none 0 0,.int .i64 0])) w':=fun w' hb hz=>
  ⟨_,rfl,⟨false,0,1,0,⟨_,_,_,_,_,_,rfl,Nt.zero _,.inl ⟨rfl,rfl⟩⟩,⟨Int.mul_pos dx.1 dy.1,.inl ⟨rfl,rfl,rfl,rfl,hz⟩⟩⟩,hb⟩
 by_cases Qa:tx=0
 ·subst Qa
  obtain⟨-,-,-,rfl⟩:=x9 rfl
  have h:=hx.nil
  injection h with h1 h2 h3
  subst h1 h2 h3
  refine(afs w _ _ _ _ _ _ _ _ _ _ _ _ _).mono ?_
  rintro en w' ⟨rfl,hb⟩
  exact zero w' hb (by simp)
 ·obtain⟨a,rfl⟩: ∃a,bo=some a:=by
   cases bo with
   |none=>have:=hx.isNone;simp at this;omega
   |some a=>exact⟨a,rfl⟩
  by_cases Je:ty=0
  ·subst Je
   obtain⟨-,-,-,rfl⟩:=y9 rfl
   have h:=hy.nil
   injection h with h1 h2 h3
   subst h1 h2 h3
   refine(aft w _ _ _ _ _ _ _ _ _ _ _ _ _).mono ?_
   rintro en w' ⟨rfl,hb⟩
   exact zero w' hb (by simp)
  ·obtain⟨c,rfl⟩: ∃a,co=some a:=by
    cases co with
    |none=>have:=hy.isNone;simp at this;omega
    |some a=>exact⟨a,rfl⟩
   have hqp:=abO
   have lt2: ∀{x y:Int},0<x→0<y→x<qs→y<qs→x*y<big:=fun{x y} h1 h2 h3 h4=>by
    have:=NP h3 h4 (Int.le_of_lt h1) (Int.le_of_lt h2)
    have:=Vo
    omega
   refine(Zn w hE sx sy a lb cb aU aS cb2 c lc cc co2 lc2 cc2 tx bx ex ty by' ey _ _ hx (.ajH hbx (by omega)) hy (.ajH hby (by omega)) (x8 Qa) (y8 Je) x5 y5 (by omega) (by omega) (by omega) (by omega) (.inl (by omega)) (.inl (by omega))
    (lt2 (by omega) (by omega) x2 y2) (lt2 x3 y3 x4 y4) rfl rfl).mono ?_
   rintro en w' ⟨v,rfl,hn,hb⟩
   exact⟨v,rfl,⟨_,_,_,_,hn,dx.mul dy (by omega) (by omega)⟩,hb⟩
theorem LM:(1:Int)<2^2400:=by decide+kernel
theorem ape(w:World)(sx sy:Bool)(ox:Option Addr)(lx cx:Nat)(ox2:Option Addr)(xQ xR:Nat)(ex:Int)(a:Addr)(ly cy:Nat)(Bo:Option Addr)(Bq Bv:Nat)(ey:Int)(s:Bool)(t b e K D k:Int)
 (HI:Hid (∀W,Below w.heap.size w W→Calls prog 156 #[.agg #[.bool sy,.slice (some a) ly cy,.slice Bo Bq Bv,.int .i64 ey]] W (sS W s t b e)))
 (HM:Hid (∀W v,Below w.heap.size w W→Nm W v s t b e→Calls prog 94 #[.agg #[.bool sx,.slice ox lx cx,.slice ox2 xQ xR,.int .i64 ex],v] W (LV W K D k))):
 Calls prog 91 #[.agg #[.bool sx,.slice ox lx cx,.slice ox2 xQ xR,.int .i64 ex],.agg #[.bool sy,.slice (some a) ly cy,.slice Bo Bq Bv,.int .i64 ey]] w fun en w'=> ∃v,en=.returned (.tuple #[v,.int .i64 0])∧Qn w' v K D k∧Below w.heap.size w w':=by
 go_enter func91,ntmps91
 go_wp2_with fail
 obtain⟨hA,hB,hC,hW0⟩:=zS w #[.bool sx,.slice ox lx cx,.slice ox2 xQ xR,.int .i64 ex] #[.bool sy,.slice (some a) ly cy,.slice Bo Bq Bv,.int .i64 ey] #[.bool false,.slice none 0 0,.slice none 0 0,.int .i64 0] 45
 obtain⟨g,hg⟩: ∃g,w.heap.size=g:=⟨_,rfl⟩
 have HT0:sG w _ w.heap.size _ _ _:=⟨hW0,hA,hB,hC⟩
 rw[hg]at HT0
 have HG:=h_ hg
 rw[hg]at⊢
 clear hA hB hC hW0 hg
 generalize ((w.alloc (.cells #[.bool sx,.slice ox lx cx,.slice ox2 xQ xR,.int .i64 ex] 45)).alloc (.cells #[.bool sy,.slice (some a) ly cy,.slice Bo Bq Bv,.int .i64 ey] 45)).alloc (.cells #[.bool false,.slice none 0 0,.slice none 0 0,.int .i64 0] 45)=W0 at HT0⊢
 have hst: ∀(W1 W2:World),Hid (sG w W1 g #[.bool sx,.slice ox lx cx,.slice ox2 xQ xR,.int .i64 ex] #[.bool sy,.slice (some a) ly cy,.slice Bo Bq Bv,.int .i64 ey] #[.bool false,.slice none 0 0,.slice none 0 0,.int .i64 0])→Below W1.heap.size W1 W2→Hid (sG w W2 g #[.bool sx,.slice ox lx cx,.slice ox2 xQ xR,.int .i64 ex] #[.bool sy,.slice (some a) ly cy,.slice Bo Bq Bv,.int .i64 ey] #[.bool false,.slice none 0 0,.slice none 0 0,.int .i64 0])∧W2.cell? ⟨g,0,none⟩=some (Value.bool sx)∧W2.cell? ⟨g,1,none⟩=some (.slice ox lx cx)∧W2.cell? ⟨g,2,none⟩=some (.slice ox2 xQ xR)∧W2.cell? ⟨g,3,none⟩=some (.int .i64 ex)∧W2.cell? ⟨(g+1),0,none⟩=some (Value.bool sy)∧W2.cell? ⟨(g+1),1,none⟩=some (.slice (some a) ly cy)∧W2.cell? ⟨(g+1),2,none⟩=some (.slice Bo Bq Bv)∧W2.cell? ⟨(g+1),3,none⟩=some (.int .i64 ey):=fun W1 W2 h hb=>
  have h2:=h.out.next hb
  ⟨h_ h2,h2.a.cell 0,h2.a.cell 1,h2.a.cell 2,h2.a.cell 3,h2.b.cell 0,h2.b.cell 1,h2.b.cell 2,h2.b.cell 3⟩
 have HSt:=h_ hst
 clear hst
 obtain⟨H0,r0,r1,r2,r3,r4,r5,r6,r7⟩:Hid (sG w W0.drew g #[.bool sx,.slice ox lx cx,.slice ox2 xQ xR,.int .i64 ex] #[.bool sy,.slice (some a) ly cy,.slice Bo Bq Bv,.int .i64 ey] #[.bool false,.slice none 0 0,.slice none 0 0,.int .i64 0])∧W0.drew.cell? ⟨g,0,none⟩=some (Value.bool sx)∧W0.drew.cell? ⟨g,1,none⟩=some (.slice ox lx cx)∧W0.drew.cell? ⟨g,2,none⟩=some (.slice ox2 xQ xR)∧W0.drew.cell? ⟨g,3,none⟩=some (.int .i64 ex)∧W0.drew.cell? ⟨(g+1),0,none⟩=some (Value.bool sy)∧W0.drew.cell? ⟨(g+1),1,none⟩=some (.slice (some a) ly cy)∧W0.drew.cell? ⟨(g+1),2,none⟩=some (.slice Bo Bq Bv)∧W0.drew.cell? ⟨(g+1),3,none⟩=some (.int .i64 ey):=HSt.out _ _ (h_ HT0) ((aY.step W0 1).below _)
 have c0:=HT0.a.cell
 have c1:=HT0.b.cell
 clear HT0
 go_region_held3 (fun w'=>w'.cell? ⟨g,0,none⟩=some (Value.bool sx)∧w'.cell? ⟨g,1,none⟩=some (.slice ox lx cx)∧w'.cell? ⟨g,2,none⟩=some (.slice ox2 xQ xR)∧w'.cell? ⟨g,3,none⟩=some (.int .i64 ex)∧w'.cell? ⟨(g+1),0,none⟩=some (Value.bool sy)∧w'.cell? ⟨(g+1),1,none⟩=some (.slice (some a) ly cy)∧w'.cell? ⟨(g+1),2,none⟩=some (.slice Bo Bq Bv)∧w'.cell? ⟨(g+1),3,none⟩=some (.int .i64 ey)) (first|exact⟨v0,v1,v2,v3,v4,v5,v6,v7⟩|exact⟨u0,u1,u2,u3,u4,u5,u6,u7⟩|exact⟨r0,r1,r2,r3,r4,r5,r6,r7⟩|(simp[go_sem, *];done)|go_keep)
  (first
   |(go_at_call 156;(with_reducible refine(HI.out _ H0.out.bel).mono ?_);rintro en w3 ⟨v3,rfl,hv,hb⟩;obtain⟨H1,u0,u1,u2,u3,u4,u5,u6,u7⟩:=HSt.out _ _ H0 hb;have V1:=h_ hv;obtain⟨o4,l4,c4,o42,l42,c42,rfl,-,-⟩:=hv.ex;clear hv hb)
   |(go_at_call 94;(with_reducible refine(HM.out _ _ H1.out.bel V1.out).mono ?_);rintro en w4 ⟨v4,rfl,hv,hb⟩;obtain⟨H2,v0,v1,v2,v3,v4,v5,v6,v7⟩:=HSt.out _ _ H1 hb;have V2:=h_ hv;obtain⟨s5,o5,l5,c5,kz,kC,kD,x5,rfl⟩:=hv.shape;have cC:=H2.out.c.cell;have fC:=H2.out.c.free;have lC:=H2.out.c.lt;clear hv hb))
 go_wp2_with fail
 refine bodyPost_ret (v:=.tuple #[.agg #[.bool s5,.slice o5 l5 c5,.slice kz kC kD,.int .i64 x5],.int .i64 0]) (by simp[results,results91,go_sem,cC,lC]) rfl ?_
 have ho:=jd.only (g+1+1) w4 s5 o5 l5 c5 kz kC kD x5
 exact⟨_,rfl,V2.out.only ho H2.out.c.noW,H2.out.bel.trans (ho.below H2.out.bel.size (by have:=HG.out;omega))⟩
theorem aud{s:Bool}{K L F:Int}(hL:sg s L.natAbs=L)(h:L≠0):K*sg s F=(if L<0 then-(K*F)else K*F):=by
 cases s
 ·have: ¬L<0:=by simp only[sg,if_false,Bool.false_eq_true]at hL;omega
  rw[if_neg this];rfl
 ·have:L<0:=by simp only[sg,if_true]at hL;omega
  rw[if_pos this];exact Int.mul_neg _ _
theorem aon(w:World)(hE:Env w)(vx vy:Value)(K k L l:Int)(hx:Dn w vx K k)(hy:Dn w vy L l)(ix:fV K 1 k)(iy:fV L 1 l)(hL:L≠0):
 Calls prog 91 #[vx,vy] w fun en w'=> ∃v,en=.returned (.tuple #[v,.int .i64 0])∧Qn w' v (if L<0 then-K else K) L.natAbs (k-l)∧Below w.heap.size w w':=by
 have hx:=hx.qn
 obtain⟨sy,ty,ey,ny,dy⟩:=hy
 have dy:=dy.qr
 obtain⟨y1,y2,y3,y4,y5,y6,y7,y8,y9⟩:=iy.ql dy
 have Je:ty≠0:=fun h=>hL (y9 h).2.2.2
 obtain⟨hi,hs,_⟩:=dy.inv (by omega)
 obtain⟨sx,ox,lx,cx,ox2,xQ,xR,ex,rfl⟩:=hx.shape
 obtain⟨oy,ly,cy,rfl,hyt⟩:=ny.Gn
 obtain⟨a,rfl⟩: ∃a,oy=some a:=by
  cases oy with
  |none=>have:=hyt.isNone;simp at this;omega
  |some a=>exact⟨a,rfl⟩
 have hqb:qs<big:=by
  have h1:=Vo
  have h2:=au 2400
  have h3:=Int.mul_le_mul_of_nonneg_left (show(1:Int)≤qs from h2) (Int.le_of_lt h2)
  unfold qs at*
  omega
 obtain⟨i1,i2,i3,i4,i5,i6⟩:=iy
 refine(ape w sx sy ox lx cx ox2 xQ xR ex a ly cy none 0 0 ey sy 1 ty (-ey) (K*sg sy 1) (1*L.natAbs) (k+ -l) ?_ ?_).mono ?_
 ·exact h_ fun W hW=>Xw W (hE.below hW) _ sy ty 1 ey (ny.below hW) (by omega) (by omega) (y8 Je) (by omega) (by decide) (by decide) (by omega) (by omega)
 ·exact h_ fun W v hW hn=>Va W (hE.below hW) _ _ K 1 k (sg sy 1) L.natAbs (-l) (hx.below hW) ⟨_,_,_,_,hn,hi⟩ ix ⟨by cases sy<;>simp[sg]<;>unfold qs<;>have:=LM<;>omega,by cases sy<;>simp[sg]<;>unfold qs<;>have:=LM<;>omega,by omega,by omega,by omega,by omega⟩
 ·rintro en w' ⟨v,rfl,hv,hb⟩
  rw[aud hs hL,Int.one_mul,Int.mul_one]at hv
  exact⟨v,rfl,by rw[show k-l=k+ -l by omega];exact hv,hb⟩
end Go.Proofs.YtnapiakfbihnjaaGreatDoor
namespace Go.Proofs.YtnapiakfbihnjaaGreatDoor
open Go.RowKit Go.Shelf
attribute [local go_sem] fQ dP
theorem abQ{a n m:Nat}(h:n+m≤a)(h2:a≤60000){t:Int}(t0:0≤t)(ht:t<2^n):t*2^m<2^a:=by
 obtain⟨d,rfl⟩:=Nat.exists_eq_add_of_le h
 rw[Int.pow_add,Int.pow_add]
 have h3:=Int.mul_lt_mul_of_pos_right ht (au m)
 have h4:=Int.mul_le_mul_of_nonneg_left (show(1:Int)≤2^d from au d) (Int.le_of_lt (Int.mul_pos (au n) (au m)))
 omega
theorem ZA{a b:Nat}(h:a≤b):(2:Int)^a≤2^b:=by
 obtain⟨d,rfl⟩:=Nat.exists_eq_add_of_le h
 rw[Int.pow_add]
 have:=Int.mul_le_mul_of_nonneg_left (show(1:Int)≤2^d from au d) (Int.le_of_lt (au a))
 omega
theorem abC(w:World)(hE:Env w)(v:Value)(K D k:Int)(h:Qn w v K D k)(i:fV K D k):
 Calls Tryz.prog 158 #[v] w (jc w (kZ K D k) 0):=by
 obtain⟨s,t,b,e,nm,dx⟩:=h
 obtain⟨x1,x2,x3,x4,x5,x6,x7,x8,x9⟩:=i.ql dx
 have hf:=dx.floor
 have hco:=dx.co
 have hlt:t*2^e.toNat<2^9800:=abQ (n:=2400) (by omega) (by omega) x1 x2
 have hl2:(2:Int)^9800<gz:=by
  have:=ZA (show 9801≤60000 by omega)
  rw[Int.pow_succ]at this
  have:=au 9800
  unfold gz;omega
 have hsb:=Ig
 have hn0:=Int.mul_nonneg x1 (Int.le_of_lt (au e.toNat))
 have hqb:qs<big:=by
  have:=ZA (show 2400≤9800 by omega)
  unfold qs at*;omega
 by_cases hb:b=1
 ·subst hb
  have hd:Dn w v (sg s t*2^e.toNat) (-((-e).toNat:Int)):=by
   refine⟨s,t,e,nm,?_⟩
   by_cases ht:t=0
   ·obtain⟨rfl,_,rfl,_⟩:=x9 ht
    exact .inl ⟨ht,rfl,rfl,by rw[ht];simp[sg]⟩
   ·exact .inr ⟨x8 ht,by omega,e.toNat,by omega,rfl⟩
  have:=Gp w hE v _ _ hd (by
   rw[lY]
   generalize t*2^e.toNat=X at*
   cases s<;>simp only[sg,if_true,if_false,Bool.false_eq_true]<;>omega) (by omega)
  rw[hf,Int.one_mul]
  exact this
 ·have ht:t≠0:=fun h=>hb (x9 h).2.1
  obtain⟨bo,lb,cb,aU,aS,cb2,rfl,hx,hbx⟩:=nm.ex
  have hbx:Nt w (.slice aU aS cb2) b:=by
   rcases hbx with⟨h1,_⟩|⟨_,h1⟩
   ·exact absurd h1 hb
   ·exact h1
  obtain⟨a,rfl⟩: ∃a,aU=some a:=by
   cases aU with
   |none=>have:=hbx.isNone;simp at this;omega
   |some a=>exact⟨a,rfl⟩
  refine abN w hE s bo lb cb a aS cb2 t b e hx hbx hb x3 (by omega) (by omega) (by omega) (by omega) _ _ rfl ?_
  rw[hf,Int.ediv_ediv_of_nonneg (Int.le_of_lt (au _)),Int.mul_comm (2^(-e).toNat) b,lY]
  have hM:0<b*2^(-e).toNat:=Int.mul_pos x3 (au _)
  cases s
  ·rfl
  ·have hnd: ¬(b*2^(-e).toNat∣t*2^e.toNat):=by
    intro hd
    have hd2:b*2^(-e).toNat∣sg true t*2^e.toNat:=by
     rw[lY];exact Int.dvd_neg.2 hd
    have h3:b*2^(-e).toNat∣1:=LW (lN hco.1) (by rw[Int.mul_one];exact hd2)
    have h4:=Int.le_of_dvd (by omega) h3
    have h5:=Int.mul_le_mul_of_nonneg_left (show(1:Int)≤2^(-e).toNat from au _) (Int.le_of_lt x3)
    omega
   show(-(t*2^e.toNat))/(b*2^(-e).toNat)= -(t*2^e.toNat/(b*2^(-e).toNat)+1)
   generalize t*2^e.toNat=X at*
   generalize b*2^(-e).toNat=M at*
   have e1:=Int.mul_ediv_add_emod X M
   have e2:=Int.emod_nonneg X (show M≠0 by omega)
   have e3:=Int.emod_lt_of_pos X hM
   have e4:X%M≠0:=fun h=>hnd (Int.dvd_of_emod_eq_zero h)
   generalize X/M=q at*
   generalize X%M=r at*
   have e5: -X=(M-r)+M*(-(q+1)):=by rw[←e1];grind
   rw[e5,Int.add_mul_ediv_left _ _ (by omega),Int.ediv_eq_zero_of_lt (by omega) (by omega)]
   omega
end Go.Proofs.YtnapiakfbihnjaaGreatDoor
