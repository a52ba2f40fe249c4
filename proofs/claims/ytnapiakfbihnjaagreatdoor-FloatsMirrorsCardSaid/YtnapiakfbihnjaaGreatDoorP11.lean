/-
  Contracts of package floats's machine: signed, unsigned.
-/
import Derived.Test.YtnapiakfbihnjaaGreatDoorP10
set_option linter.unusedVariables false
set_option linter.unusedSimpArgs false
set_option maxRecDepth 1000000
set_option maxHeartbeats 1000000
namespace Go.Proofs.YtnapiakfbihnjaaGreatDoor
open Go.RowKit Go.Shelf Tryz
attribute [local go_sem] fQ dP
def Three(w W:World)(g:Nat)(A B C:Array Value):Prop:=Below w.heap.size w W∧Box W g A∧Box W (g+1) B∧Box W (g+1+1) C
theorem Three.next{w W W':World}{g:Nat}{A B C:Array Value}(h:Three w W g A B C)(hb:Below W.heap.size W W'):Three w W' g A B C:=⟨h.1.trans (hb.mono h.1.size),h.2.1.below hb,h.2.2.1.below hb,h.2.2.2.below hb⟩
theorem NL(w:World)(A B C:Array Value)(T U V:TypeId):Three w (((w.alloc (.cells A T)).alloc (.cells B U)).alloc (.cells C V)) w.heap.size A B C:=by
 refine⟨(((Below.refl _ _).alloc (Nat.le_refl _) _).alloc (by simp) _).alloc (by simp;omega) _,((Box.new w A T).alloc _).alloc _,?_,?_⟩
 ·have:=(Box.new (w.alloc (.cells A T)) B U).alloc (.cells C V)
  rwa [World.size_alloc]at this
 ·have:=Box.new ((w.alloc (.cells A T)).alloc (.cells B U)) C V
  rwa [World.size_alloc,World.size_alloc]at this
def ai(E P:Int):Int:=2^(E+P-1).toNat
theorem dV{E P:Int}(h:aG E P):0<ai E P∧2*ai E P<aW:=by
 obtain⟨h1,h2,h3,h4,h5⟩:=h
 unfold ai
 have a:=JJ (k:=(E+P-1).toNat+1) (by omega)
 rw[Int.pow_succ]at a
 have:=au (E+P-1).toNat
 omega
theorem adA(w:World)(E P m h l:Int):
 Calls prog 89 #[.agg #[.int .i64 E,.int .i64 P,.int .i64 m],.bool false,.agg #[.int .u64 h,.int .u64 l]] w fun e w'=>e=.returned (.agg #[.int .u64 h,.int .u64 l])∧Below w.heap.size w w':=by
 go_enter func89,ntmps89
 go_wp2
 refine bodyPost_ret (v:=.agg #[.int .u64 h,.int .u64 l]) (by simp[results,results89,go_sem]) rfl ?_
 exact⟨rfl,below3 _ _ _ _⟩
theorem aay(w:World)(E P m h l X:Int)(hf:aG E P)(hw:Wn h l X)(hX:X<ai E P):
 Calls prog 89 #[.agg #[.int .i64 E,.int .i64 P,.int .i64 m],.bool true,.agg #[.int .u64 h,.int .u64 l]] w (jR w (X+ai E P)):=by
 have HX:Hid ((X+2^(E+P-1).toNat)%aW=X+ai E P):=h_ (by
  have:=dV hf
  have:=hw.range
  exact Int.emod_eq_of_lt (by unfold ai at*;omega) (by unfold ai at*;omega))
 obtain⟨h1,h2,h3,h4,h5⟩:=hf
 have HWn:=h_ hw
 clear hw hX
 have x1:IntKind.i64.wrap (E+P)=E+P:=IntWalk.i64_in _ (by omega)
 have x2:IntKind.i64.wrap (E+P-1)=E+P-1:=IntWalk.i64_in _ (by omega)
 go_enter func89,ntmps89
 go_wp2_with fail
 have hT:=NL w #[.int .i64 E,.int .i64 P,.int .i64 m] #[.int .u64 h,.int .u64 l] #[.int .u64 0,.int .u64 0] 56 26 26
 generalize hW:((w.alloc (.cells #[.int .i64 E,.int .i64 P,.int .i64 m] 56)).alloc (.cells #[.int .u64 h,.int .u64 l] 26)).alloc (.cells #[.int .u64 0,.int .u64 0] 26)=W at hT⊢
 clear hW
 have H0:Hid (Three w W.drew w.heap.size #[.int .i64 E,.int .i64 P,.int .i64 m] #[.int .u64 h,.int .u64 l] #[.int .u64 0,.int .u64 0]):=h_ (hT.next ((aY.step W 1).below _))
 have c0:W.cell? ⟨w.heap.size,0,none⟩=some (.int .i64 E):=hT.2.1.cell 0
 have c1:W.cell? ⟨w.heap.size,1,none⟩=some (.int .i64 P):=hT.2.1.cell 1
 have c2:W.cell? ⟨w.heap.size+1,0,none⟩=some (.int .u64 h):=hT.2.2.1.cell 0
 have c3:W.cell? ⟨w.heap.size+1,1,none⟩=some (.int .u64 l):=hT.2.2.1.cell 1
 clear hT
 generalize hg:w.heap.size=g at*
 have HG:=h_ hg
 clear hg
 have step: ∀(W1 W2:World),Three w W1 g #[.int .i64 E,.int .i64 P,.int .i64 m] #[.int .u64 h,.int .u64 l] #[.int .u64 0,.int .u64 0]→Below W1.heap.size W1 W2→Hid (Three w W2 g #[.int .i64 E,.int .i64 P,.int .i64 m] #[.int .u64 h,.int .u64 l] #[.int .u64 0,.int .u64 0])∧W2.cell? ⟨g,0,none⟩=some (.int .i64 E)∧W2.cell? ⟨g,1,none⟩=some (.int .i64 P)∧W2.cell? ⟨g+1,0,none⟩=some (.int .u64 h)∧W2.cell? ⟨g+1,1,none⟩=some (.int .u64 l):=fun W1 W2 a b=>
  ⟨h_ (a.next b),(a.next b).2.1.cell 0,(a.next b).2.1.cell 1,(a.next b).2.2.1.cell 0,(a.next b).2.2.1.cell 1⟩
 have HSt:=h_ step
 have K1:Hid (∀W1,Calls prog 154 #[.int .i64 (E+P-1)] W1 (jR W1 (2^(E+P-1).toNat))):=h_ fun W1=>yX W1 _ (by omega) (by omega)
 clear step
 go_region_held3 (fun w'=>w'.cell? ⟨g,0,none⟩=some (.int .i64 E)∧w'.cell? ⟨g,1,none⟩=some (.int .i64 P)∧w'.cell? ⟨g+1,0,none⟩=some (.int .u64 h)∧w'.cell? ⟨g+1,1,none⟩=some (.int .u64 l)) (first|exact⟨by assumption,by assumption,by assumption,by assumption⟩|(simp[go_sem, *];done)|go_keep)
  (first
   |(go_at_call 154;refine(K1.out _).mono ?_;rintro en w1 ⟨a1,b1,rfl,W1,hb1⟩;obtain⟨H1,d10,d11,d12,d13⟩:=HSt.out _ _ H0.out hb1;clear hb1)
   |(go_at_call 140;refine(Em _ _ _ _ _ _ _ HWn.out W1).mono ?_;rintro en w3 ⟨a3,b3,rfl,W3,hb3⟩;obtain⟨H3,d30,d31,d32,d33⟩:=HSt.out _ _ H1.out hb3;have cB:=H3.out.2.2.2.cell;have fB:=H3.out.2.2.2.free;clear hb3))
 have lB:=H3.out.2.2.2.lt
 have W4:=h_ (HX.out▸W3)
 clear W1 W3 d10 d11 d12 d13 d30 d31 d32 d33
 go_wp2_with fail
 refine bodyPost_ret (v:=.agg #[.int .u64 a3,.int .u64 b3]) (by simp[results,results89,go_sem,cB,lB]) rfl ?_
 have ho:=oH (g+1+1) w3 (.int .u64 a3) (.int .u64 b3)
 exact⟨a3,b3,rfl,W4.out,H3.out.1.trans (ho.below H3.out.1.size (by have:=HG.out;omega))⟩
def aeb(w:World)(neg:Bool)(X:Int)(e:Ending)(w':World):Prop:= ∃h l,e=.returned (.tuple #[.bool neg,.agg #[.int .u64 h,.int .u64 l]])∧Wn h l X∧Below w.heap.size w w'
theorem Td(w:World)(E P m h l X:Int)(hf:aG E P)(hw:Wn h l X)(hX:X<ai E P):
 Calls prog 176 #[.agg #[.int .i64 E,.int .i64 P,.int .i64 m],.agg #[.int .u64 h,.int .u64 l]] w (aeb w false X):=by
 have HWn:=h_ hw
 have hd:decide (X<ai E P)=true:=by simpa using hX
 have HDc:=h_ hd
 obtain⟨h1,h2,h3,h4,h5⟩:=hf
 have K1:Hid (∀W1,Calls prog 154 #[.int .i64 (E+P-1)] W1 (jR W1 (ai E P))):=h_ fun W1=>yX W1 _ (by omega) (by omega)
 clear hw hX hd
 have x1:IntKind.i64.wrap (E+P)=E+P:=IntWalk.i64_in _ (by omega)
 have x2:IntKind.i64.wrap (E+P-1)=E+P-1:=IntWalk.i64_in _ (by omega)
 go_enter func176,ntmps176
 go_wp2_with fail
 have HT:Hid (Three w _ w.heap.size _ _ _):=h_ (NL w #[.int .i64 E,.int .i64 P,.int .i64 m] #[.int .u64 h,.int .u64 l] #[.int .u64 0,.int .u64 0] 56 26 26)
 refine(K1.out _).mono ?_
 rintro en w1 ⟨a1,b1,rfl,W1,hb⟩
 have HT1:=h_ (HT.out.next hb)
 have HW1:=h_ W1
 clear hb W1
 have cA:=HT1.out.2.2.1.cell
 have lA:=HT1.out.2.2.1.lt
 go_wp2_with fail
 have hl:=Jw (w1.alloc (.cells #[.int .u64 a1,.int .u64 b1] 26)) h l X a1 b1 (ai E P) HWn.out HW1.out
 rw[HDc.out]at hl
 refine hl.mono ?_
 rintro en w2 ⟨rfl,hb⟩
 have HT2:=h_ ((HT1.out.next ((Below.refl _ _).alloc (Nat.le_refl _) _)).next hb)
 clear hl hb cA lA
 have cA:=HT2.out.2.2.1.cell
 have cC:=HT2.out.2.2.2.cell
 have fC:=HT2.out.2.2.2.free
 have lC:=HT2.out.2.2.2.lt
 generalize hg:w.heap.size=g at*
 have HG:=h_ hg
 clear hg
 go_wp2_with fail
 go_region
 go_wp2_with fail
 refine bodyPost_ret (v:=.tuple #[.bool false,.agg #[.int .u64 h,.int .u64 l]]) (by simp[results,results176,go_sem,cC,lC]) rfl ?_
 have ho:=oH (g+1+1) w2.drew (.int .u64 h) (.int .u64 l)
 have hbb:Below w.heap.size w w2.drew:=HT2.out.1.trans ((aY.step w2 1).below _)
 exact⟨h,l,rfl,HWn.out,hbb.trans (ho.below hbb.size (by have:=HG.out;omega))⟩
theorem Tf(w:World)(E P m h l X:Int)(hf:aG E P)(hw:Wn h l X)(hX:ai E P≤X):
 Calls prog 176 #[.agg #[.int .i64 E,.int .i64 P,.int .i64 m],.agg #[.int .u64 h,.int .u64 l]] w (aeb w true (X-ai E P)):=by
 have HWn:=h_ hw
 have hd:decide (X<ai E P)=false:=by simp;omega
 have HDc:=h_ hd
 have HX:Hid ((X-ai E P)%aW=X-ai E P):=h_ (by
  have:=dV hf
  have:=hw.range
  exact Int.emod_eq_of_lt (by omega) (by omega))
 obtain⟨h1,h2,h3,h4,h5⟩:=hf
 have K1:Hid (∀W1,Calls prog 154 #[.int .i64 (E+P-1)] W1 (jR W1 (ai E P))):=h_ fun W1=>yX W1 _ (by omega) (by omega)
 clear hw hX hd
 have x1:IntKind.i64.wrap (E+P)=E+P:=IntWalk.i64_in _ (by omega)
 have x2:IntKind.i64.wrap (E+P-1)=E+P-1:=IntWalk.i64_in _ (by omega)
 go_enter func176,ntmps176
 go_wp2_with fail
 have HT:Hid (Three w _ w.heap.size _ _ _):=h_ (NL w #[.int .i64 E,.int .i64 P,.int .i64 m] #[.int .u64 h,.int .u64 l] #[.int .u64 0,.int .u64 0] 56 26 26)
 refine(K1.out _).mono ?_
 rintro en w1 ⟨a1,b1,rfl,W1,hb⟩
 have HT1:=h_ (HT.out.next hb)
 have HW1:=h_ W1
 clear hb W1
 have cA:=HT1.out.2.2.1.cell
 have lA:=HT1.out.2.2.1.lt
 go_wp2_with fail
 have hl:=Jw (w1.alloc (.cells #[.int .u64 a1,.int .u64 b1] 26)) h l X a1 b1 (ai E P) HWn.out HW1.out
 rw[HDc.out]at hl
 refine hl.mono ?_
 rintro en w2 ⟨rfl,hb⟩
 have HT2:=h_ ((HT1.out.next ((Below.refl _ _).alloc (Nat.le_refl _) _)).next hb)
 have HS2:=h_ ((Box.new w1 #[.int .u64 a1,.int .u64 b1] 26).below hb)
 clear hl hb cA lA
 have cA:=HT2.out.2.2.1.cell
 have cS:=HS2.out.cell
 go_wp2_with fail
 refine(Gj w2 h l X a1 b1 (ai E P) HWn.out HW1.out).mono ?_
 rintro en w3 ⟨a3,b3,rfl,W3,hb⟩
 have HT3:=h_ (HT2.out.next hb)
 have HW3:=h_ (HX.out▸W3)
 clear hb W3 cA cS
 have cC:=HT3.out.2.2.2.cell
 have fC:=HT3.out.2.2.2.free
 have lC:=HT3.out.2.2.2.lt
 generalize hg:w.heap.size=g at*
 have HG:=h_ hg
 clear hg
 go_wp2_with fail
 refine bodyPost_ret (v:=.tuple #[.bool true,.agg #[.int .u64 a3,.int .u64 b3]]) (by simp[results,results176,go_sem,cC,lC]) rfl ?_
 have ho:=oH (g+1+1) w3 (.int .u64 a3) (.int .u64 b3)
 exact⟨a3,b3,rfl,HW3.out,HT3.out.1.trans (ho.below HT3.out.1.size (by have:=HG.out;omega))⟩
end Go.Proofs.YtnapiakfbihnjaaGreatDoor
namespace Go.Proofs.YtnapiakfbihnjaaGreatDoor
open Go.RowKit Go.Shelf Tryz
attribute [local go_sem] fQ dP
theorem an0(w:World)(a b:Int):(Instr.field 26 (.agg #[.int .u64 a,.int .u64 b]) 1).run prog w=.ok (.int .u64 b) w:=by kernel_rfl
attribute [local go_sem] an0
theorem UA(x:Int)(h0:0≤x)(h1:x<18446744073709551616):bits .and .u64 x 4611686018427387903=x%4611686018427387904:=by
 obtain⟨x,rfl⟩:=Int.eq_ofNat_of_zero_le h0
 have h:=bits_and_u64_nat x 4611686018427387903 (by omega) (by omega)
 have e:x&&&4611686018427387903=x%4611686018427387904:=Nat.and_two_pow_sub_one_eq_mod x 62
 rw[e]at h
 exact h
theorem ayI{h l X:Int}(a:Wn h l X)(hX:X<2^124):Wn h l X∧0≤X/2^62∧X/2^62<2^62∧X=X/2^62*2^62+l%4611686018427387904:=by
 have b:=a
 obtain⟨a1,a2,a3,a4,rfl⟩:=a
 have e:(2:Int)^62=4611686018427387904:=rfl
 have e2:(2:Int)^124=4611686018427387904*4611686018427387904:=rfl
 rw[e2]at hX
 rw[e]
 exact⟨b,by omega,by omega,by omega⟩
theorem QJ:(2:Int)^130<gz:=by
 unfold gz
 rw[show 60000=130+(1+59869)from rfl,Int.pow_add,Int.pow_add]
 have h1:=au 130
 have h2:=Int.mul_le_mul_of_nonneg_left (show(1:Int)≤2^59869 from au _) (show(0:Int)≤2^1 by decide)
 have h3:=Int.mul_le_mul_of_nonneg_left (show(2:Int)≤2^1*2^59869 by omega) (Int.le_of_lt h1)
 omega
theorem aee(w:World)(hE:Env w)(h l X:Int)(a:Wn h l X)(hX:X<4611686018427387904):Calls prog 186 #[.agg #[.int .u64 h,.int .u64 l]] w (jc w X 0):=by
 have HE:=h_ hE
 have HWn:=h_ a
 obtain⟨a1,a2,a3,a4,a5⟩:=a
 have hm:=UA l a3 a4
 have hlX:Hid (l%4611686018427387904=X):=h_ (by omega)
 rw[hlX.out]at hm
 have c1:IntKind.i64.wrap X=X:=IntWalk.i64_in _ (by omega)
 have HX:Hid (0≤X∧X<4611686018427387904):=h_ (by omega)
 have hr:Hid (∀W1,Calls prog 123 #[.agg #[.int .u64 h,.int .u64 l],.int .i64 62] W1 (jR W1 0)):=h_ (fun W1=>by
  have:=En W1 h l X HWn.out 62 (by omega)
  rwa [show X/2^62=0 from Int.ediv_eq_zero_of_lt HX.out.1 HX.out.2]at this)
 clear hE a5 hX
 go_enter func186,ntmps186
 go_wp2_with fail
 have HT:=yY w #[.int .u64 h,.int .u64 l] #[.bool false,.slice none 0 0,.slice none 0 0,.int .i64 0] 26 45
 refine(NE _ (HE.out.below HT.out.1) X (by have:=HX.out;omega) (by have:=HX.out;omega)).mono ?_
 rintro en w1 ⟨v1,rfl,hv,hb⟩
 obtain⟨s,o,lx,c,o2,l2,c2,q,rfl⟩:=hv.shape
 have HT1:=h_ (HT.out.next hb)
 have HV:=h_ hv
 clear hb hv
 have cA:=HT1.out.2.1.cell
 have lA:=HT1.out.2.1.lt
 go_wp2_with fail
 refine(hr.out _).mono ?_
 rintro en w2 ⟨h3,l3,rfl,W3,hb⟩
 have HT2:=h_ ((HT1.out.next ((Below.refl _ _).alloc (Nat.le_refl _) _)).next hb)
 have HS2:=h_ ((Box.new w1 #[.bool s,.slice o lx c,.slice o2 l2 c2,.int .i64 q] 45).below hb)
 have sQ:=h_ ((HV.out.below ((Below.refl _ _).alloc (Nat.le_refl _) _)).below hb)
 obtain⟨q1,q2,q3,q4,q5⟩:=W3
 obtain rfl:l3=0:=by omega
 clear hb cA lA q1 q2 q3 q4 q5
 have cS:=HS2.out.cell
 have cC:=HT2.out.2.2.cell
 have fC:=HT2.out.2.2.free
 have lC:=HT2.out.2.2.lt
 generalize hg:w.heap.size=g at*
 have HG:=h_ hg
 clear hg
 go_wp2_with fail
 refine bodyPost_ret (v:=.agg #[.bool s,.slice o lx c,.slice o2 l2 c2,.int .i64 q]) (by simp[results,results186,go_sem,cC,lC]) rfl ?_
 have ho:=jd.only (g+1) w2 s o lx c o2 l2 c2 q
 exact⟨_,rfl,sQ.out.only ho HT2.out.2.2.noW,HT2.out.1.trans (ho.below HT2.out.1.size (by have:=HG.out;omega))⟩
theorem aa9(w:World)(hE:Env w)(h l X:Int)(a:Wn h l X)(hX:X<2^124)(hX0:4611686018427387904≤X):Calls prog 186 #[.agg #[.int .u64 h,.int .u64 l]] w (jc w X 0):=by
 have HE:=h_ hE
 have HWn:=h_ a
 obtain⟨_,y0,y1,y2⟩:=ayI a hX
 obtain⟨a1,a2,a3,a4,a5⟩:=a
 have hm:=UA l a3 a4
 obtain⟨lo,hlo⟩: ∃r,l%4611686018427387904=r:=⟨_,rfl⟩
 obtain⟨Y,hY⟩: ∃r,X/2^62=r:=⟨_,rfl⟩
 rw[hlo]at hm y2
 rw[hY]at y0 y1 y2
 have hlo0:0≤lo∧lo<4611686018427387904:=by omega
 rw[show(2:Int)^62=4611686018427387904 from rfl]at y1 y2
 have HX:Hid (0≤lo∧lo<4611686018427387904∧0<Y∧Y<4611686018427387904∧X=Y*4611686018427387904+lo):=h_ ⟨hlo0.1,hlo0.2,by omega,y1,y2⟩
 have hr:Hid (∀W1,Calls prog 123 #[.agg #[.int .u64 h,.int .u64 l],.int .i64 62] W1 (jR W1 Y)):=h_ (fun W1=>by
  have:=En W1 h l X HWn.out 62 (by omega)
  rwa [hY]at this)
 have c1:IntKind.i64.wrap lo=lo:=IntWalk.i64_in _ (by omega)
 have c2:IntKind.i64.wrap Y=Y:=IntWalk.i64_in _ (by omega)
 have hne:(Y==0)=false:=by simp;have:=HX.out;omega
 clear hE a5 hX hX0 hlo hY y0 y1 y2 hlo0
 go_enter func186,ntmps186
 go_wp2_with fail
 have HT:=yY w #[.int .u64 h,.int .u64 l] #[.bool false,.slice none 0 0,.slice none 0 0,.int .i64 0] 26 45
 refine(NE _ (HE.out.below HT.out.1) lo (by have:=HX.out;omega) (by have:=HX.out;omega)).mono ?_
 rintro en w1 ⟨v1,rfl,hv,hb⟩
 obtain⟨s,o,lx,c,o2,l2,c2',q,rfl⟩:=hv.shape
 have HT1:=h_ (HT.out.next hb)
 have HV:=h_ hv
 clear hb hv
 have cA:=HT1.out.2.1.cell
 have lA:=HT1.out.2.1.lt
 go_wp2_with fail
 refine(hr.out _).mono ?_
 rintro en w2 ⟨h3,l3,rfl,W3,hb⟩
 have HT2:=h_ ((HT1.out.next ((Below.refl _ _).alloc (Nat.le_refl _) _)).next hb)
 have HS2:=h_ ((Box.new w1 #[.bool s,.slice o lx c,.slice o2 l2 c2',.int .i64 q] 45).below hb)
 have sQ:=h_ ((HV.out.below ((Below.refl _ _).alloc (Nat.le_refl _) _)).below hb)
 obtain⟨q1,q2,q3,q4,q5⟩:=W3
 obtain rfl:Y=l3:=by have:=HX.out;omega
 clear hb cA lA q1 q2 q3 q4 q5
 generalize hg:w.heap.size=g at*
 have HG:=h_ hg
 clear hg
 have hne1: ¬g+1=w1.heap.size:=by have:=HT1.out.2.2.lt;omega
 have hne2: ¬w1.heap.size=g+1:=by omega
 generalize hgs:w1.heap.size=gs at*
 clear hgs
 go_wp2_with fail
 have d0:w2.cell? ⟨gs,0,none⟩=some (.bool s):=HS2.out.cell 0
 have d1:w2.cell? ⟨gs,1,none⟩=some (.slice o lx c):=HS2.out.cell 1
 have d2:w2.cell? ⟨gs,2,none⟩=some (.slice o2 l2 c2'):=HS2.out.cell 2
 have d3:w2.cell? ⟨gs,3,none⟩=some (.int .i64 q):=HS2.out.cell 3
 have H0:Hid (Two w w2.drew g #[.int .u64 h,.int .u64 l] #[.bool false,.slice none 0 0,.slice none 0 0,.int .i64 0]∧Box w2.drew gs #[.bool s,.slice o lx c,.slice o2 l2 c2',.int .i64 q]∧Dn w2.drew (.agg #[.bool s,.slice o lx c,.slice o2 l2 c2',.int .i64 q]) lo 0):=h_ ⟨HT2.out.next ((aY.step w2 1).below _),HS2.out.below ((aY.step w2 1).below _),sQ.out.below ((aY.step w2 1).below _)⟩
 have step: ∀(W1 W2:World),Hid (Two w W1 g #[.int .u64 h,.int .u64 l] #[.bool false,.slice none 0 0,.slice none 0 0,.int .i64 0]∧Box W1 gs #[.bool s,.slice o lx c,.slice o2 l2 c2',.int .i64 q]∧Dn W1 (.agg #[.bool s,.slice o lx c,.slice o2 l2 c2',.int .i64 q]) lo 0)→Below W1.heap.size W1 W2→Hid (Two w W2 g #[.int .u64 h,.int .u64 l] #[.bool false,.slice none 0 0,.slice none 0 0,.int .i64 0]∧Box W2 gs #[.bool s,.slice o lx c,.slice o2 l2 c2',.int .i64 q]∧Dn W2 (.agg #[.bool s,.slice o lx c,.slice o2 l2 c2',.int .i64 q]) lo 0)∧W2.cell? ⟨gs,0,none⟩=some (.bool s)∧W2.cell? ⟨gs,1,none⟩=some (.slice o lx c)∧W2.cell? ⟨gs,2,none⟩=some (.slice o2 l2 c2')∧W2.cell? ⟨gs,3,none⟩=some (.int .i64 q):=fun W1 W2 a b=>
  ⟨h_ ⟨a.out.1.next b,a.out.2.1.below b,a.out.2.2.below b⟩,(a.out.2.1.below b).cell 0,(a.out.2.1.below b).cell 1,(a.out.2.1.below b).cell 2,(a.out.2.1.below b).cell 3⟩
 have HSt:=h_ step
 clear step HT2 HS2 sQ
 have hY:Hid (-gz<Y∧Y<gz∧ -gz<Y*4611686018427387904∧Y*4611686018427387904<gz∧ -gz<lo∧lo<gz):=h_ (by
  have h1:=QJ
  rw[show(2:Int)^130=1361129467683753853853498429727072845824 from rfl]at h1
  have:=HX.out
  omega)
 have KS:Hid (∀(W1:World) (v:Value),Hid (Dn W1 v Y 0)→Calls prog 168 #[v,.int .i64 62] W1 (jc W1 (Y*4611686018427387904) 0)):=h_ (fun W1 v hv=>by
  refine(wS W1 v Y 0 62 hv.out ⟨hY.out.1,hY.out.2.1⟩ (by omega) (by omega)).mono ?_
  rintro en w' ⟨v',rfl,hv',hb⟩
  have hv2:=hv'.scale 62
  rw[show(0:Int)+62-((62:Nat):Int)=0 by omega,show(2:Int)^62=4611686018427387904 from rfl]at hv2
  exact⟨v',rfl,hv2,hb⟩)
 have KA:Hid (∀(W1:World) (v:Value),Hid (Dn W1 v (Y*4611686018427387904) 0)→Hid (Two w W1 g #[.int .u64 h,.int .u64 l] #[.bool false,.slice none 0 0,.slice none 0 0,.int .i64 0]∧Box W1 gs #[.bool s,.slice o lx c,.slice o2 l2 c2',.int .i64 q]∧Dn W1 (.agg #[.bool s,.slice o lx c,.slice o2 l2 c2',.int .i64 q]) lo 0)→Calls prog 71 #[v,.agg #[.bool s,.slice o lx c,.slice o2 l2 c2',.int .i64 q]] W1 (jc W1 X 0)):=h_ (fun W1 v hv hH=>by
  have:=add_any W1 (HE.out.below hH.out.1.1) v _ (Y*4611686018427387904) lo 0 hv.out hH.out.2.2 ⟨hY.out.2.2.1,hY.out.2.2.2.1⟩ ⟨hY.out.2.2.2.2.1,hY.out.2.2.2.2.2⟩ (by omega)
  rwa [←HX.out.2.2.2.2]at this)
 go_region_held3 (fun w'=>w'.cell? ⟨gs,0,none⟩=some (.bool s)∧w'.cell? ⟨gs,1,none⟩=some (.slice o lx c)∧w'.cell? ⟨gs,2,none⟩=some (.slice o2 l2 c2')∧w'.cell? ⟨gs,3,none⟩=some (.int .i64 q)) (first|(simp[go_sem,hne1,hne2,e30,e31,e32,e33];done)|exact⟨e30,e31,e32,e33⟩|exact⟨e20,e21,e22,e23⟩|exact⟨e10,e11,e12,e13⟩|exact⟨d0,d1,d2,d3⟩)
  (first
   |(go_at_call 109;refine(NE _ (HE.out.below H0.out.1.1) Y (by have:=HX.out;omega) (by have:=HX.out;omega)).mono ?_;rintro en w3 ⟨v3,rfl,hv,hb⟩;obtain⟨s3,o3,l3',c3,o32,l32,c32,q3,rfl⟩:=hv.shape;obtain⟨H1,e10,e11,e12,e13⟩:=HSt.out _ _ H0 hb;have V1:=h_ hv;clear hv hb)
   |(go_at_call 168;(with_reducible refine(KS.out _ _ V1).mono ?_);rintro en w4 ⟨v4,rfl,hv,hb⟩;obtain⟨s4,o4,l4,c4,o42,l42,c42,q4,rfl⟩:=hv.shape;obtain⟨H2,e20,e21,e22,e23⟩:=HSt.out _ _ H1 hb;have V2:=h_ hv;clear hv hb)
   |(go_at_call 71;(with_reducible refine(KA.out _ _ V2 H2).mono ?_);rintro en w5 ⟨v5,rfl,hv,hb⟩;obtain⟨s5,o5,l5,c5,kz,kC,kD,q5,rfl⟩:=hv.shape;obtain⟨H3,e30,e31,e32,e33⟩:=HSt.out _ _ H2 hb;have cC:=H3.out.1.2.2.cell;have fC:=H3.out.1.2.2.free;have V3:=h_ hv;clear hv hb))
 have lC:=H3.out.1.2.2.lt
 clear e10 e11 e12 e13 e20 e21 e22 e23 e30 e31 e32 e33
 go_wp2_with fail
 refine bodyPost_ret (v:=.agg #[.bool s5,.slice o5 l5 c5,.slice kz kC kD,.int .i64 q5]) (by simp[results,results186,go_sem,cC,lC]) rfl ?_
 have ho:=jd.only (g+1) w5 s5 o5 l5 c5 kz kC kD q5
 have hn:=V3.out.only ho H3.out.1.2.2.noW
 exact⟨_,rfl,hn,H3.out.1.1.trans (ho.below H3.out.1.1.size (by have:=HG.out;omega))⟩
theorem adJ(w:World)(hE:Env w)(h l X:Int)(a:Wn h l X)(hX:X<2^124):Calls prog 186 #[.agg #[.int .u64 h,.int .u64 l]] w (jc w X 0):=by
 by_cases h0:X<4611686018427387904
 ·exact aee w hE h l X a h0
 ·exact aa9 w hE h l X a hX (by omega)
end Go.Proofs.YtnapiakfbihnjaaGreatDoor
namespace Go.Proofs.YtnapiakfbihnjaaGreatDoor
open Go.RowKit Go.Shelf Tryz
attribute [local go_sem] fQ dP
theorem zQ(w:World)(v:Value)(K:Int)(h:Dn w v K 0)(h0:0≤K)(hK:K<9223372036854775808):Calls prog 196 #[v] w (jR w K):=by
 have hs:K<gz:=by
  have:=QJ
  rw[show(2:Int)^130=1361129467683753853853498429727072845824 from rfl]at this
  omega
 obtain⟨s,o,l,c,o2,l2,c2,q,rfl⟩:=h.shape
 have hi:Hid (∀W,Below w.heap.size w W→Calls prog 235 #[.agg #[.bool s,.slice o l c,.slice o2 l2 c2,.int .i64 q]] W (rQ W K 0)):=h_ (fun W hb=>(Pg W _ K (h.below hb) h0 hs).1 hK)
 have HW:Hid (Wn 0 K K):=h_ ⟨by omega,by omega,h0,by omega,by omega⟩
 have x1:IntKind.u64.wrap K=K:=by rw[IntKind.wrap_u64];omega
 clear h hs h0 hK
 go_enter func196,ntmps196
 go_wp2_with fail
 have HT:=yY w #[.bool s,.slice o l c,.slice o2 l2 c2,.int .i64 q] #[.int .u64 0,.int .u64 0] 45 26
 refine(hi.out _ HT.out.1).mono ?_
 rintro en w1 ⟨rfl,hb⟩
 have HT1:=h_ (HT.out.next hb)
 clear hb
 have cC:=HT1.out.2.2.cell
 have fC:=HT1.out.2.2.free
 have lC:=HT1.out.2.2.lt
 go_wp2_with fail
 refine bodyPost_ret (v:=.agg #[.int .u64 0,.int .u64 K]) (by simp[results,results196,go_sem,cC,lC]) rfl ?_
 have ho:=oH (w.heap.size+1) w1 (.int .u64 0) (.int .u64 K)
 exact⟨0,K,rfl,HW.out,HT1.out.1.trans (ho.below HT1.out.1.size (by omega))⟩
end Go.Proofs.YtnapiakfbihnjaaGreatDoor
namespace Go.Proofs.YtnapiakfbihnjaaGreatDoor
open Go.RowKit Go.Shelf
def Lo(w:World)(gl:Nat)(a b c d:Value):Prop:=w.cell? ⟨gl,0,none⟩=some a∧w.cell? ⟨gl,1,none⟩=some b∧w.cell? ⟨gl,2,none⟩=some c∧w.cell? ⟨gl,3,none⟩=some d∧gl<w.heap.size
theorem Lo.next{w w':World}{gl:Nat}{a b c d:Value}(h:Lo w gl a b c d)(hb:Below w.heap.size w w'):Lo w' gl a b c d:=
 ⟨(hb.cell h.2.2.2.2).trans h.1,(hb.cell h.2.2.2.2).trans h.2.1,(hb.cell h.2.2.2.2).trans h.2.2.1,(hb.cell h.2.2.2.2).trans h.2.2.2.1,Nat.lt_of_lt_of_le h.2.2.2.2 hb.size⟩
theorem Box.under{w w':World}{g B:Nat}{A:Array Value}(h:Box w g A)(hb:Below B w w')(hg:g<B):Box w' g A:=
 ⟨fun o=>(hb.cell (p:=⟨g,o,none⟩) hg).trans (h.cell o),fun o=>(hb.frozen (p:=⟨g,o,none⟩) hg).trans (h.free o),Nat.lt_of_lt_of_le h.lt hb.size⟩
theorem ajP{w:World}{g gs gl:Nat}{A B C:Array Value}{vn vh:Value}{K H L:Int}(w5:World){s5:Bool}{o5:Option Addr}{l5 c5:Nat}{kz:Option Addr}{kC kD:Nat}{q5:Int}
 (hgl:gs<gl) (hgg:g+1<gs) (hw:w.heap.size=g)
 (h2:Hid (Two w w5 g A B∧Box w5 gs C∧Dn w5 vn K 0∧Dn w5 vh H 0)) (hx:Hid (Box w5 gl #[.bool false,.slice none 0 0,.slice none 0 0,.int .i64 0]))
 (hv:Hid (Dn w5 (.agg #[.bool s5,.slice o5 l5 c5,.slice kz kC kD,.int .i64 q5]) L 0)):
 Hid (Two w ((((w5.setCell ⟨gl,0,none⟩ (.bool s5)).setCell ⟨gl,1,none⟩ (.slice o5 l5 c5)).setCell ⟨gl,2,none⟩ (.slice kz kC kD)).setCell ⟨gl,3,none⟩ (.int .i64 q5)) g A B∧
  Box ((((w5.setCell ⟨gl,0,none⟩ (.bool s5)).setCell ⟨gl,1,none⟩ (.slice o5 l5 c5)).setCell ⟨gl,2,none⟩ (.slice kz kC kD)).setCell ⟨gl,3,none⟩ (.int .i64 q5)) gs C∧
  Lo ((((w5.setCell ⟨gl,0,none⟩ (.bool s5)).setCell ⟨gl,1,none⟩ (.slice o5 l5 c5)).setCell ⟨gl,2,none⟩ (.slice kz kC kD)).setCell ⟨gl,3,none⟩ (.int .i64 q5)) gl (.bool s5) (.slice o5 l5 c5) (.slice kz kC kD) (.int .i64 q5)∧
  Dn ((((w5.setCell ⟨gl,0,none⟩ (.bool s5)).setCell ⟨gl,1,none⟩ (.slice o5 l5 c5)).setCell ⟨gl,2,none⟩ (.slice kz kC kD)).setCell ⟨gl,3,none⟩ (.int .i64 q5)) vh H 0∧
  Dn ((((w5.setCell ⟨gl,0,none⟩ (.bool s5)).setCell ⟨gl,1,none⟩ (.slice o5 l5 c5)).setCell ⟨gl,2,none⟩ (.slice kz kC kD)).setCell ⟨gl,3,none⟩ (.int .i64 q5)) (.agg #[.bool s5,.slice o5 l5 c5,.slice kz kC kD,.int .i64 q5]) L 0):=by
 have ho:Only gl w5 _:=jd.only gl w5 s5 o5 l5 c5 kz kC kD q5
 have X:=hx.out
 have hb:=ho.below (Nat.le_of_lt X.lt) (Nat.le_refl _)
 obtain⟨⟨t1,t2,t3⟩,b2,d2,e2⟩:=h2.out
 have cB:=X.cell
 have lB:=X.lt
 refine h_ ⟨⟨t1.trans (ho.below t1.size (by omega)),t2.under hb (by omega),t3.under hb (by omega)⟩,b2.under hb hgl,?_,e2.only ho X.noW,hv.out.only ho X.noW⟩
 refine⟨?_,?_,?_,?_,Nat.lt_of_lt_of_le lB hb.size⟩<;>simp[go_sem,cB,lB]
theorem aru{w:World}{g gs gl:Nat}{A B C:Array Value}{vn vh:Value}{K H L:Int}(w5:World){s5:Bool}{o5:Option Addr}{l5 c5:Nat}{kz:Option Addr}{kC kD:Nat}{q5:Int}(T:TypeId)(hg:w5.heap.size=gl)
 (h2:Hid (Two w w5 g A B∧Box w5 gs C∧Dn w5 vn K 0∧Dn w5 vh H 0))
 (hv:Hid (Dn w5 (.agg #[.bool s5,.slice o5 l5 c5,.slice kz kC kD,.int .i64 q5]) L 0)):
 Hid (Two w (w5.alloc (.cells #[.bool s5,.slice o5 l5 c5,.slice kz kC kD,.int .i64 q5] T)) g A B∧
  Box (w5.alloc (.cells #[.bool s5,.slice o5 l5 c5,.slice kz kC kD,.int .i64 q5] T)) gs C∧
  Lo (w5.alloc (.cells #[.bool s5,.slice o5 l5 c5,.slice kz kC kD,.int .i64 q5] T)) gl (.bool s5) (.slice o5 l5 c5) (.slice kz kC kD) (.int .i64 q5)∧
  Dn (w5.alloc (.cells #[.bool s5,.slice o5 l5 c5,.slice kz kC kD,.int .i64 q5] T)) vh H 0∧
  Dn (w5.alloc (.cells #[.bool s5,.slice o5 l5 c5,.slice kz kC kD,.int .i64 q5] T)) (.agg #[.bool s5,.slice o5 l5 c5,.slice kz kC kD,.int .i64 q5]) L 0):=by
 subst hg
 have hb:Below w5.heap.size w5 (w5.alloc (.cells #[.bool s5,.slice o5 l5 c5,.slice kz kC kD,.int .i64 q5] T)):=(Below.refl _ _).alloc (Nat.le_refl _) _
 have hn:=Box.new w5 #[.bool s5,.slice o5 l5 c5,.slice kz kC kD,.int .i64 q5] T
 exact h_ ⟨h2.out.1.next hb,h2.out.2.1.below hb,⟨hn.cell 0,hn.cell 1,hn.cell 2,hn.cell 3,hn.lt⟩,h2.out.2.2.2.below hb,hv.out.below hb⟩
def Qr(s:Bool)(t b e K D k:Int):Prop:=
 0<D∧((t=0∧s=false∧b=1∧e=0∧K=0)∨(t%2=1∧0<t∧b%2=1∧0<b∧Int.gcd t b=1∧ ∃i j:Nat,e-i=k-j∧sg s t*2^i*D=K*2^j*b))
def Qn(w:World)(v:Value)(K D k:Int):Prop:= ∃s t b e,Nm w v s t b e∧Qr s t b e K D k
theorem Qn.below{w w':World}{v:Value}{K D k:Int}(h:Qn w v K D k)(hw:Below w.heap.size w w'):Qn w' v K D k:=by
 obtain⟨s,t,b,e,h1,h2⟩:=h
 exact⟨s,t,b,e,h1.below hw,h2⟩
theorem Qn.shape{w:World}{v:Value}{K D k:Int}(h:Qn w v K D k): ∃s bo lb cb aU aS cb2 e,v=.agg #[.bool s,.slice bo lb cb,.slice aU aS cb2,.int .i64 e]:=by
 obtain⟨s,t,b,e,h1,_⟩:=h
 obtain⟨bo,lb,cb,aU,aS,cb2,h1,_⟩:=h1.ex
 exact⟨_,_,_,_,_,_,_,_,h1⟩
theorem Qn.only{w w':World}{g:Nat}{v:Value}{K D k:Int}(h:Qn w v K D k)(ho:Only g w w')(hno:NoW w g):Qn w' v K D k:=by
 obtain⟨s,t,b,e,h1,h2⟩:=h
 exact⟨s,t,b,e,h1.only ho hno,h2⟩
def LV(w:World)(K D k:Int)(en:Ending)(w':World):Prop:= ∃v,en=.returned v∧Qn w' v K D k∧Below w.heap.size w w'
theorem Qr.neg{s:Bool}{t b e K D k:Int}(h:Qr s t b e K D k):s=decide (K<0):=by
 obtain⟨hD,h⟩:=h
 rcases h with⟨_,rfl,_,_,rfl⟩|⟨_,t0,_,pb,_,i,j,_,hk⟩
 ·rfl
 ·have hp:0<t*2^i*D:=Int.mul_pos (Int.mul_pos t0 (au i)) hD
  have hq:0<2^j*b:=Int.mul_pos (au j) pb
  rw[Int.mul_assoc K]at hk
  cases s
  ·have e:sg false t=t:=rfl
   rw[e]at hk
   have: ¬K<0:=fun h=>by
    have:=Int.mul_neg_of_neg_of_pos h hq
    omega
   simp[this]
  ·have e:sg true t*2^i*D= -(t*2^i*D):=by
    show(-t)*2^i*D=_
    rw[Int.neg_mul,Int.neg_mul]
   rw[e]at hk
   have:K<0:=by
    apply Classical.byContradiction
    intro h
    have:=Int.mul_nonneg (show 0≤K by omega) (Int.le_of_lt hq)
    omega
   simp[this]
end Go.Proofs.YtnapiakfbihnjaaGreatDoor
