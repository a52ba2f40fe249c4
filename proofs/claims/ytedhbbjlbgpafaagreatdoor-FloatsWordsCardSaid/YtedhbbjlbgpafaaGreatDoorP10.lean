/-
  Contracts of package exact's numbers: Shift, log, Log, whole, Int, and what a missing divisor makes short.
-/
import Derived.Test.YtedhbbjlbgpafaaGreatDoorP09
import Derived.Deep.RegionWith
set_option linter.unusedVariables false
set_option linter.unusedSimpArgs false
set_option maxRecDepth 1000000
set_option maxHeartbeats 2000000
namespace Go.Proofs.YtedhbbjlbgpafaaGreatDoor
open Go.RowKit Go.Shelf
attribute [local go_sem] eqNil neqNil
def NmErrPost(w:World)(s:Bool)(t b e:Int)(er:Int)(en:Ending)(w':World):Prop:= ∃v,en=.returned (.tuple #[v,.int .i64 er])∧Nm w' v s t b e∧Below w.heap.size w w'
theorem shift_any(w:World)(v:Value)(s:Bool)(t b e k:Int)(h:Nm w v s t b e)(hk0: -20000≤k)(hk1:k≤20000)(he0: -1000000≤e)(he1:e≤1000000):
 Calls Tryz.prog 223 #[v,.int .i64 k] w (NmErrPost w s t b (if t=0 then e else e+k) 0):=by
 obtain⟨bo,lb,cb,bo2,lb2,cb2,rfl,h1,h2⟩:=h.ex
 have hn:=h1.isNone
 have hE0:(if t=0 then e else e+k)=if decide (t=0)then e else e+k:=by simp
 generalize (if t=0 then e else e+k)=r at hE0⊢
 generalize decide (t=0)=z at hn hE0
 have hE:=Lib.hid hE0
 clear hE0
 have H1:=Lib.hid h1
 have H2:=Lib.hid h2
 clear h h1 h2
 have hb: ∀q r:Int,Below w.heap.size w ((w.alloc (.cells #[.bool s,.slice bo lb cb,.slice bo2 lb2 cb2,.int .i64 q] 51)).alloc (.cells #[.bool s,.slice bo lb cb,.slice bo2 lb2 cb2,.int .i64 r] 51)):=fun q r=>
  ((Below.refl w.heap.size w).alloc (Nat.le_refl _) _).alloc (by simp) _
 have HB:=Lib.hid hb
 clear hb
 cases z
 ·go_enter Tryz.func223,Tryz.ntmps223
  go_wp2
  refine bodyPost_ret (v:=.tuple #[.agg #[.bool s,.slice bo lb cb,.slice bo2 lb2 cb2,.int .i64 (e+k)],.int .i64 0]) (by simp[results,Tryz.results223,go_sem]) rfl ?_
  exact⟨_,rfl,⟨_,_,_,_,_,_,by rw[hE.out];rfl,H1.out.below (HB.out _ _),H2.out.below (HB.out _ _)⟩,HB.out _ _⟩
 ·go_enter Tryz.func223,Tryz.ntmps223
  go_wp2
  refine bodyPost_ret (v:=.tuple #[.agg #[.bool s,.slice bo lb cb,.slice bo2 lb2 cb2,.int .i64 e],.int .i64 0]) (by simp[results,Tryz.results223,go_sem]) rfl ?_
  exact⟨_,rfl,⟨_,_,_,_,_,_,by rw[hE.out];rfl,H1.out.below (HB.out _ _),H2.out.below (HB.out _ _)⟩,HB.out _ _⟩
def IntPost(w:World)(x:Int)(e:Ending)(w':World):Prop:=e=.returned (.int .i64 x)∧Below w.heap.size w w'
theorem blen_big{n:Int}(h:n<big):blen n≤64000:=by
 by_cases h0:n≤0
 ·unfold blen;rw[if_pos h0];omega
 ·obtain⟨h1,_,h3⟩:=blen_spec (show 0<n by omega)
  apply Classical.byContradiction
  intro hc
  have h4:(2:Int)^64000*1≤2^64000*2^(blen n-1-64000):=Int.mul_le_mul_of_nonneg_left (show(1:Int)≤2^(blen n-1-64000)from p2pos _) (Int.le_of_lt (p2pos _))
  rw[←Int.pow_add,show 64000+(blen n-1-64000)=blen n-1 by omega]at h4
  have h5:big=2^64000:=by unfold big;rw[pw_two]
  omega
theorem log_nil(w:World)(v:Value)(s:Bool)(t e:Int)(h:Nm w v s t 1 e)(ht:t<big)(h0:0<t)(he0: -1000000≤e)(he1:e≤1000000):
 Calls Tryz.prog 148 #[v] w (IntPost w (blen t-1+e)):=by
 obtain⟨bo,lb,cb,bo2,lb2,cb2,rfl,h1,h2⟩:=h.ex
 obtain rfl:bo2=none:=by have:=h2.isNone (by decide);simpa using this
 have hbl:=blen_big ht
 obtain⟨_,_,hb1⟩:=blen_spec h0
 generalize hL:blen t=L at hbl hb1⊢
 have HL:=Lib.hid hL
 have H1:=Lib.hid h1
 have HT:=Lib.hid ht
 clear h h1 h2 hL ht h0
 have HB:Hid (Below w.heap.size w (w.alloc (.cells #[.bool s,.slice bo lb cb,.slice none lb2 cb2,.int .i64 e] 51))):=Lib.hid ((Below.refl _ _).alloc (Nat.le_refl _) _)
 have hsz: ∀wx,Below w.heap.size w wx→Calls Tryz.prog 150 #[.slice bo lb cb] wx fun en w'=>en=.returned (.int .i64 L)∧w'=wx:=fun wx hb=>by
  refine(size_any wx _ t (H1.out.below hb) HT.out).mono ?_
  rintro en w' ⟨rfl,rfl⟩
  exact⟨by rw[HL.out],rfl⟩
 have HS:=Lib.hid hsz
 clear hsz
 have x1:IntKind.i64.wrap ((L:Int)-1)=(L:Int)-1:=IntWalk.i64_in _ (by omega)
 have x2:IntKind.i64.wrap ((L:Int)-1+e)=(L:Int)-1+e:=IntWalk.i64_in _ (by omega)
 go_enter Tryz.func148,Tryz.ntmps148
 go_wp2_with fail
 go_quiet ((go_at_call 150;exact Calls.quiet_of_same (HS.out _ (HB.out.trans ((Drw.step _ _).below _)))))
 go_wp2_with fail
 go_ret
 exact⟨rfl,HB.out.trans ((Drw.step _ _).below _)⟩
end Go.Proofs.YtedhbbjlbgpafaaGreatDoor
namespace Go.Proofs.YtedhbbjlbgpafaaGreatDoor
open Go.RowKit Go.Shelf
attribute [local go_sem] eqNil neqNil
def sg(s:Bool)(x:Int):Int:=if s then-x else x
theorem sg_zero(s:Bool):sg s 0=0:=by cases s<;>rfl
def Dr(s:Bool)(t e K k:Int):Prop:=(t=0∧s=false∧e=0∧K=0)∨(t%2=1∧0<t∧ ∃j:Nat,e=k+j∧K=sg s t*2^j)
def Dn(w:World)(v:Value)(K k:Int):Prop:= ∃s t e,Nm w v s t 1 e∧Dr s t e K k
theorem Dn.below{w w':World}{v:Value}{K k:Int}(h:Dn w v K k)(hw:Below w.heap.size w w'):Dn w' v K k:=by
 obtain⟨s,t,e,h1,h2⟩:=h
 exact⟨s,t,e,h1.below hw,h2⟩
def DnPost(w:World)(K k:Int)(en:Ending)(w':World):Prop:= ∃v,en=.returned v∧Dn w' v K k∧Below w.heap.size w w'
theorem NmPost.dn{w:World}{s:Bool}{t e K k:Int}(h:Dr s t e K k){en:Ending}{w':World}(hp:NmPost w s t 1 e en w'):DnPost w K k en w':=by
 obtain⟨v,h1,h2,h3⟩:=hp
 exact⟨v,h1,⟨s,t,e,h2,h⟩,h3⟩
theorem fracD(w:World)(hE:Env w)(neg:Bool)(v:Value)(n twos:Int)(h:Nt w v n)(hs:n<big)(ht: -1000000000<twos)(ht':twos<1000000000):
 Calls Tryz.prog 135 #[.bool neg,v,.slice none 0 0,.int .i64 twos] w (DnPost w (sg neg n) twos):=by
 by_cases h0:n=0
 ·subst h0
  rw[h.nil]
  refine(frac_zero w neg twos none 0 0).mono ?_
  rintro en w' ⟨rfl,hb⟩
  refine⟨_,rfl,⟨false,0,0,⟨_,_,_,_,_,_,rfl,Nt.zero _,.inl ⟨rfl,rfl⟩⟩,.inl ⟨rfl,rfl,rfl,?_⟩⟩,hb⟩
  cases neg<;>rfl
 ·refine(frac_nil w hE neg v n twos h hs h0 ht ht').mono ?_
  rintro en w' ⟨v',t,z,rfl,hv,h2,hz,hb⟩
  obtain⟨bo,lb,cb,rfl⟩:=hv.shape
  have hp:=two_le_pow hz (by have:=h.nonneg;omega) hs
  refine⟨_,rfl,⟨neg,t,twos+z,⟨_,_,_,_,_,_,rfl,hv,.inl ⟨rfl,rfl⟩⟩,.inr ⟨h2,hp.2.1,z,rfl,?_⟩⟩,hb⟩
  rw[hz,Int.mul_comm]
  cases neg
  ·rfl
  ·exact(Int.neg_mul _ _).symm
theorem Nm.only{w w':World}{g:Nat}{v:Value}{s:Bool}{t b e:Int}(h:Nm w v s t b e)(ho:Only g w w')(hno:NoW w g):Nm w' v s t b e:=by
 obtain⟨bo,lb,cb,bo2,lb2,cb2,h1,h2,h3⟩:=h.ex
 exact⟨bo,lb,cb,bo2,lb2,cb2,h1,h2.only ho hno,h3.only ho hno⟩
theorem Dn.only{w w':World}{g:Nat}{v:Value}{K k:Int}(h:Dn w v K k)(ho:Only g w w')(hno:NoW w g):Dn w' v K k:=by
 obtain⟨s,t,e,h1,h2⟩:=h
 exact⟨s,t,e,h1.only ho hno,h2⟩
theorem Dn.shape{w:World}{v:Value}{K k:Int}(h:Dn w v K k): ∃s bo lb cb bo2 lb2 cb2 e,v=.agg #[.bool s,.slice bo lb cb,.slice bo2 lb2 cb2,.int .i64 e]:=by
 obtain⟨s,t,e,h1,_⟩:=h
 obtain⟨bo,lb,cb,bo2,lb2,cb2,h1,_⟩:=h1.ex
 exact⟨_,_,_,_,_,_,_,_,h1⟩
theorem laid_facts{w w1:World}{cs:Array Value}{T:TypeId}(hb:Below (w.alloc (.cells cs T)).heap.size (w.alloc (.cells cs T)) w1):
 (∀o,w1.cell? ⟨w.heap.size,o,none⟩=(w.alloc (.cells cs T)).cell? ⟨w.heap.size,o,none⟩)∧(∀o,w1.frozen? ⟨w.heap.size,o,none⟩=(w.alloc (.cells cs T)).frozen? ⟨w.heap.size,o,none⟩)∧w.heap.size<w1.heap.size∧Below w.heap.size w w1:=
 ⟨fun o=>hb.cell (p:=⟨w.heap.size,o,none⟩) (by simp),fun o=>hb.frozen (p:=⟨w.heap.size,o,none⟩) (by simp),by have:=hb.size;simp at this;omega,((Below.refl _ _).alloc (Nat.le_refl _) _).trans (hb.mono (by simp))⟩
theorem noW_num{w w1:World}{s:Bool}{bo:Option Addr}{lb cb:Nat}{bo2:Option Addr}{lb2 cb2:Nat}{e:Int}{T:TypeId}
 (hc: ∀o,w1.cell? ⟨w.heap.size,o,none⟩=(w.alloc (.cells #[.bool s,.slice bo lb cb,.slice bo2 lb2 cb2,.int .i64 e] T)).cell? ⟨w.heap.size,o,none⟩):NoW w1 w.heap.size:=by
 intro o x
 rw[hc]
 rcases o with _|_|_|_|o<;>simp[go_sem]
def Stored(g:Nat)(w:World)(s:Bool)(bo:Option Addr)(lb cb:Nat)(bo2:Option Addr)(lb2 cb2:Nat)(e:Int):World:=
 (((w.setCell ⟨g,0,none⟩ (.bool s)).setCell ⟨g,1,none⟩ (.slice bo lb cb)).setCell ⟨g,2,none⟩ (.slice bo2 lb2 cb2)).setCell ⟨g,3,none⟩ (.int .i64 e)
theorem Stored.only(g:Nat)(w:World)(s:Bool)(bo:Option Addr)(lb cb:Nat)(bo2:Option Addr)(lb2 cb2:Nat)(e:Int):Only g w (Stored g w s bo lb cb bo2 lb2 cb2 e):=
 ((((Only.refl g w).set _ _).set _ _).set _ _).set _ _
theorem natOne(w:World):Nt (w.alloc (.cells #[.int .u64 1] 24)) (.slice (some ⟨w.heap.size,0,none⟩) 1 1) 1:=nt_one w 1 (by omega) (by omega)
theorem increase_any(w:World)(v:Value)(n:Int)(h:Nt w v n)(hs:n<big)(h0:0<n):
 Calls Tryz.prog 226 #[v] w (NewNt w (n+1)):=by
 have HB:Hid (Below w.heap.size w (w.alloc (.cells #[.int .u64 1] 24))):=Lib.hid ((Below.refl _ _).alloc (Nat.le_refl _) _)
 have H:=Lib.hid (h.below HB.out)
 have HS:=Lib.hid hs
 have H0:=Lib.hid h0
 have HO:=Lib.hid (natOne w)
 clear h hs h0
 go_enter Tryz.func226,Tryz.ntmps226
 go_wp2_with fail
 refine(natAdd_any _ v _ n 1 H.out HO.out HS.out (by decide+kernel) H0.out (by omega)).mono ?_
 rintro e w' ⟨v',rfl,h1,h2⟩
 have H1:=Lib.hid h1
 have H2:=Lib.hid h2
 clear h1 h2
 go_wp2_with fail
 go_ret
 exact⟨_,rfl,H1.out,HB.out.trans (H2.out.mono HB.out.size)⟩
theorem times_left(w:World)(a:Addr)(lb cb:Nat):
 Calls Tryz.prog 149 #[.slice (some a) lb cb,.slice none 0 0] w fun e w'=>e=.returned (.slice (some a) lb cb)∧w=w':=by
 go_enter Tryz.func149,Tryz.ntmps149
 go_wp2_with fail
 go_ret
 exact⟨rfl,rfl⟩
theorem times_right(w:World)(bo:Option Addr)(lb cb:Nat):
 Calls Tryz.prog 149 #[.slice none 0 0,.slice bo lb cb] w fun e w'=>e=.returned (.slice bo lb cb)∧w=w':=by
 go_enter Tryz.func149,Tryz.ntmps149
 go_wp2_with fail
 go_ret
 exact⟨rfl,rfl⟩
theorem common_left(w:World)(bo:Option Addr)(lb cb:Nat):
 Calls Tryz.prog 153 #[.slice none 0 0,.slice bo lb cb] w fun e w'=>e=.returned (.slice none 0 0)∧w=w':=by
 go_enter Tryz.func153,Tryz.ntmps153
 go_wp2_with fail
 go_ret
 exact⟨rfl,rfl⟩
theorem common_right(w:World)(a:Addr)(lb cb:Nat):
 Calls Tryz.prog 153 #[.slice (some a) lb cb,.slice none 0 0] w fun e w'=>e=.returned (.slice none 0 0)∧w=w':=by
 go_enter Tryz.func153,Tryz.ntmps153
 go_wp2_with fail
 go_ret
 exact⟨rfl,rfl⟩
theorem without_nil(w:World)(bo:Option Addr)(lb cb:Nat):
 Calls Tryz.prog 154 #[.slice bo lb cb,.slice none 0 0] w fun e w'=>e=.returned (.slice bo lb cb)∧w=w':=by
 go_enter Tryz.func154,Tryz.ntmps154
 go_wp2_with fail
 go_ret
 exact⟨rfl,rfl⟩
theorem whole_any(w:World)(hE:Env w)(neg:Bool)(v:Value)(n:Int)(h:Nt w v n)(hs:n<big):
 Calls Tryz.prog 224 #[.bool neg,v] w (DnPost w (sg neg n) 0):=by
 have HE:=Lib.hid hE
 have H:=Lib.hid h
 have HS:=Lib.hid hs
 clear h hs hE
 go_enter Tryz.func224,Tryz.ntmps224
 go_wp2_with fail
 refine(fracD _ (HE.out.below ((Below.refl _ _).alloc (Nat.le_refl _) _)) neg v n 0 (H.out.below ((Below.refl _ _).alloc (Nat.le_refl _) _)) HS.out (by omega) (by omega)).mono ?_
 rintro e w1 ⟨v',rfl,h1,hb⟩
 obtain⟨s,bo,lb,cb,bo2,lb2,cb2,x,rfl⟩:=h1.shape
 obtain⟨hc,hf,hz,hbw⟩:=laid_facts hb
 have HN:=Lib.hid (noW_num hc)
 have H1:=Lib.hid h1
 have HB:=Lib.hid hbw
 clear h1 hb hbw
 go_wp2_with fail
 refine bodyPost_ret (v:=.agg #[.bool s,.slice bo lb cb,.slice bo2 lb2 cb2,.int .i64 x]) (by simp[results,Tryz.results224,go_sem,hc,hz]) rfl ?_
 have ho:=Stored.only w.heap.size w1 s bo lb cb bo2 lb2 cb2 x
 exact⟨_,rfl,H1.out.only ho HN.out,HB.out.trans (ho.below HB.out.size (Nat.le_refl _))⟩
theorem word_big{x:Int}(h:x<18446744073709551616):x<big:=by
 have h1:pw^1≤pw^1000:=pow_mono (by omega)
 have h2:pw^1=18446744073709551616:=by decide
 unfold big
 omega
theorem int_any(w:World)(hE:Env w)(n:Int)(h0: -9223372036854775808≤n)(h1:n≤9223372036854775807):
 Calls Tryz.prog 80 #[.int .i64 n] w (DnPost w n 0):=by
 have HE:=Lib.hid hE
 clear hE
 obtain⟨m1,hm1⟩: ∃m,IntKind.u64.wrap n=m:=⟨_,rfl⟩
 obtain⟨m2,hm2⟩: ∃m,IntKind.u64.wrap (-m1)=m:=⟨_,rfl⟩
 have HH:Hid (0≤m1∧m1<18446744073709551616∧0≤m2∧m2<18446744073709551616∧(0≤n→m1=n)∧(n<0→m2= -n)):=Lib.hid (by
  rw[IntKind.wrap_u64]at hm1 hm2
  omega)
 clear h0 h1
 by_cases hn:n<0
 ·have HM:Hid (0≤m2∧m2<18446744073709551616∧sg true m2=n):=Lib.hid ⟨HH.out.2.2.1,HH.out.2.2.2.1,by have:=HH.out.2.2.2.2.2 hn;unfold sg;simp;omega⟩
  go_enter Tryz.func80,Tryz.ntmps80
  go_wp2_with fail
  refine(fromWord_any _ m2 HM.out.1 HM.out.2.1).mono ?_
  rintro en w1 ⟨v1,rfl,hv,hb⟩
  obtain⟨hc,hf,hz,hbw⟩:=laid_facts hb
  have HV:=Lib.hid hv
  have HB:=Lib.hid hbw
  have HBl:=Lib.hid hb
  clear hv hbw hb hc hf hz
  go_wp2_with fail
  refine(fracD w1 (HE.out.below HB.out) true v1 m2 0 HV.out (word_big HM.out.2.1) (by omega) (by omega)).mono ?_
  rintro en w2 ⟨v2,rfl,h2,hb2⟩
  obtain⟨s,bo,lb,cb,bo2,lb2,cb2,x,rfl⟩:=h2.shape
  have hbt:=HBl.out.trans (hb2.mono HBl.out.size)
  obtain⟨hc,hf,hz,hbw⟩:=laid_facts hbt
  have HN:=Lib.hid (noW_num hc)
  have H2:=Lib.hid h2
  have HB2:=Lib.hid hbw
  clear h2 hb2 hbw hbt
  go_wp2_with fail
  refine bodyPost_ret (v:=.agg #[.bool s,.slice bo lb cb,.slice bo2 lb2 cb2,.int .i64 x]) (by simp[results,Tryz.results80,go_sem,hc,hz]) rfl ?_
  have ho:=Stored.only w.heap.size w2 s bo lb cb bo2 lb2 cb2 x
  have hd:=H2.out.only ho HN.out
  rw[show sg true m2=n from HM.out.2.2]at hd
  exact⟨_,rfl,hd,HB2.out.trans (ho.below HB2.out.size (Nat.le_refl _))⟩
 ·have HM:Hid (0≤m1∧m1<18446744073709551616∧sg false m1=n):=Lib.hid ⟨HH.out.1,HH.out.2.1,by have:=HH.out.2.2.2.2.1 (by omega);unfold sg;simp;omega⟩
  go_enter Tryz.func80,Tryz.ntmps80
  go_wp2_with fail
  refine(fromWord_any _ m1 HM.out.1 HM.out.2.1).mono ?_
  rintro en w1 ⟨v1,rfl,hv,hb⟩
  obtain⟨hc,hf,hz,hbw⟩:=laid_facts hb
  have HV:=Lib.hid hv
  have HB:=Lib.hid hbw
  have HBl:=Lib.hid hb
  clear hv hbw hb hc hf hz
  go_wp2_with fail
  refine(fracD w1 (HE.out.below HB.out) false v1 m1 0 HV.out (word_big HM.out.2.1) (by omega) (by omega)).mono ?_
  rintro en w2 ⟨v2,rfl,h2,hb2⟩
  obtain⟨s,bo,lb,cb,bo2,lb2,cb2,x,rfl⟩:=h2.shape
  have hbt:=HBl.out.trans (hb2.mono HBl.out.size)
  obtain⟨hc,hf,hz,hbw⟩:=laid_facts hbt
  have HN:=Lib.hid (noW_num hc)
  have H2:=Lib.hid h2
  have HB2:=Lib.hid hbw
  clear h2 hb2 hbw hbt
  go_wp2_with fail
  refine bodyPost_ret (v:=.agg #[.bool s,.slice bo lb cb,.slice bo2 lb2 cb2,.int .i64 x]) (by simp[results,Tryz.results80,go_sem,hc,hz]) rfl ?_
  have ho:=Stored.only w.heap.size w2 s bo lb cb bo2 lb2 cb2 x
  have hd:=H2.out.only ho HN.out
  rw[show sg false m1=n from HM.out.2.2]at hd
  exact⟨_,rfl,hd,HB2.out.trans (ho.below HB2.out.size (Nat.le_refl _))⟩
end Go.Proofs.YtedhbbjlbgpafaaGreatDoor
namespace Go.Proofs.YtedhbbjlbgpafaaGreatDoor
open Go.RowKit Go.Shelf
attribute [local go_sem] eqNil neqNil
def SumPost(w:World)(X:Int)(en:Ending)(w':World):Prop:= ∃(s:Bool) (v:Value) (m:Int),en=.returned (.tuple #[.bool s,v])∧Nt w' v m∧sg s m=X∧Below w.heap.size w w'
theorem natSub_any(w:World)(va vb:Value)(x y:Int)(ha:Nt w va x)(hb:Nt w vb y)(hx:x<big)(h0:0<x)(hy:y≤x):
 Calls Tryz.prog 220 #[va,vb] w (NewNt w (x-y)):=by
 obtain⟨b,off,cap,za,rfl,hA⟩:=ha.pos (by omega)
 exact sub_main w b off cap za vb x y hA hb hx hy
theorem sum_any(w:World)(sa sb:Bool)(va vb:Value)(x y:Int)(ha:Nt w va x)(hb:Nt w vb y)(hx:x<big)(hy:y<big)(h0:0<x)(h1:0<y):
 Calls Tryz.prog 156 #[.bool sa,va,.bool sb,vb] w (SumPost w (sg sa x+sg sb y)):=by
 obtain⟨bo,lb,cb,rfl⟩:=ha.shape
 obtain⟨bo2,lb2,cb2,rfl⟩:=hb.shape
 have HA:=Lib.hid ha
 have HB:=Lib.hid hb
 have HX:=Lib.hid (And.intro hx (And.intro hy (And.intro h0 h1)))
 clear ha hb hx hy h0 h1
 by_cases hs:sa=sb
 ·subst hs
  have hq:(sa==sa)=true:=by simp
  go_enter Tryz.func156,Tryz.ntmps156
  go_wp2_with fail
  refine(natAdd_any w _ _ x y HA.out HB.out HX.out.1 HX.out.2.1 HX.out.2.2.1 HX.out.2.2.2).mono ?_
  rintro en w1 ⟨v,rfl,h1,h2⟩
  have H1:=Lib.hid h1
  have H2:=Lib.hid h2
  clear h1 h2
  go_wp2_with fail
  go_ret2
  exact⟨sa,v,x+y,rfl,H1.out,by cases sa<;>simp[sg]<;>omega,H2.out⟩
 ·have hq:(sa==sb)=false:=by simpa using hs
  by_cases hxy:y≤x
  ·have HC:Hid (0≤cmpI x y):=Lib.hid (by unfold cmpI;rw[if_neg (by omega)];split<;>omega)
   generalize hc:cmpI x y=c at HC
   have HCE:=Lib.hid hc
   have hc0:0≤c:=HC.out
   clear hc
   go_enter Tryz.func156,Tryz.ntmps156
   go_wp2_with fail
   have hcmp:=natCmp_any w _ _ x y HA.out HB.out HX.out.1 HX.out.2.1
   rw[HCE.out]at hcmp
   refine hcmp.mono ?_
   rintro en w1 ⟨rfl,hd⟩
   have HD:=Lib.hid hd
   clear hd hcmp
   go_wp2_with fail
   refine(natSub_any w1 _ _ x y (HA.out.below (HD.out.below _)) (HB.out.below (HD.out.below _)) HX.out.1 HX.out.2.2.1 hxy).mono ?_
   rintro en w2 ⟨v,rfl,h1,h2⟩
   have H1:=Lib.hid h1
   have H2:=Lib.hid h2
   clear h1 h2
   go_wp2_with fail
   go_ret2
   exact⟨sa,v,x-y,rfl,H1.out,by cases sa<;>cases sb<;>simp[sg]at hs⊢ <;>omega,(HD.out.below _).trans (H2.out.mono (HD.out.below 0).size)⟩
  ·have HC:Hid (cmpI x y<0):=Lib.hid (by rw[cmpI_lt (by omega)];omega)
   generalize hc:cmpI x y=c at HC
   have HCE:=Lib.hid hc
   have hc0:c<0:=HC.out
   clear hc
   go_enter Tryz.func156,Tryz.ntmps156
   go_wp2_with fail
   have hcmp:=natCmp_any w _ _ x y HA.out HB.out HX.out.1 HX.out.2.1
   rw[HCE.out]at hcmp
   refine hcmp.mono ?_
   rintro en w1 ⟨rfl,hd⟩
   have HD:=Lib.hid hd
   clear hd hcmp
   go_wp2_with fail
   refine(natSub_any w1 _ _ y x (HB.out.below (HD.out.below _)) (HA.out.below (HD.out.below _)) HX.out.2.1 HX.out.2.2.2 (by omega)).mono ?_
   rintro en w2 ⟨v,rfl,h1,h2⟩
   have H1:=Lib.hid h1
   have H2:=Lib.hid h2
   clear h1 h2
   go_wp2_with fail
   go_ret2
   exact⟨sb,v,y-x,rfl,H1.out,by cases sa<;>cases sb<;>simp[sg]at hs⊢ <;>omega,(HD.out.below _).trans (H2.out.mono (HD.out.below 0).size)⟩
end Go.Proofs.YtedhbbjlbgpafaaGreatDoor
namespace Go.Proofs.YtedhbbjlbgpafaaGreatDoor
open Go.RowKit Go.Shelf
attribute [local go_sem] eqNil neqNil
theorem Dn.scale{w:World}{v:Value}{K k:Int}(h:Dn w v K k)(i:Nat):Dn w v (K*2^i) (k-i):=by
 obtain⟨s,t,e,h1,h2⟩:=h
 refine⟨s,t,e,h1,?_⟩
 rcases h2 with⟨a,b,c,d⟩|⟨a,b,j,c,d⟩
 ·exact .inl ⟨a,b,c,by rw[d];simp⟩
 ·refine .inr ⟨a,b,j+i,by omega,?_⟩
  rw[d,Int.pow_add,Int.mul_assoc]
theorem Nm.nilb{w:World}{v:Value}{s:Bool}{t e:Int}(h:Nm w v s t 1 e): ∃bo lb cb,v=.agg #[.bool s,.slice bo lb cb,.slice none 0 0,.int .i64 e]∧Nt w (.slice bo lb cb) t:=by
 obtain⟨bo,lb,cb,bo2,lb2,cb2,h1,h2,h3⟩:=h.ex
 rcases h3 with⟨_,h3⟩|⟨h3,_⟩
 ·rw[h3]at h1;exact⟨bo,lb,cb,h1,h2⟩
 ·exact absurd rfl h3
structure Box(w:World)(g:Nat)(A:Array Value):Prop where
 cell: ∀o,w.cell? ⟨g,o,none⟩=A[o]?
 free: ∀o,w.frozen? ⟨g,o,none⟩=false
 lt:g<w.heap.size
theorem Box.below{w w':World}{g:Nat}{A:Array Value}(h:Box w g A)(hb:Below w.heap.size w w'):Box w' g A:=
 ⟨fun o=>(hb.cell (p:=⟨g,o,none⟩) h.lt).trans (h.cell o),fun o=>(hb.frozen (p:=⟨g,o,none⟩) h.lt).trans (h.free o),Nat.lt_of_lt_of_le h.lt hb.size⟩
theorem Box.new(w:World)(A:Array Value)(T:TypeId):Box (w.alloc (.cells A T)) w.heap.size A:=
 ⟨fun o=>by simp[go_sem],fun o=>by simp[go_sem],by simp⟩
theorem Box.alloc{w:World}{g:Nat}{A:Array Value}(h:Box w g A)(o:Obj):Box (w.alloc o) g A:=h.below ((Below.refl _ _).alloc (Nat.le_refl _) _)
theorem Box.noW{w:World}{g:Nat}{s:Bool}{bo:Option Addr}{lb cb:Nat}{bo2:Option Addr}{lb2 cb2:Nat}{e:Int}(h:Box w g #[.bool s,.slice bo lb cb,.slice bo2 lb2 cb2,.int .i64 e]):NoW w g:=by
 intro o x
 rw[h.cell]
 rcases o with _|_|_|_|o<;>simp
theorem boxes3(w:World)(A B C:Array Value)(T:TypeId):Box (((w.alloc (.cells A T)).alloc (.cells B T)).alloc (.cells C T)) w.heap.size A∧Box (((w.alloc (.cells A T)).alloc (.cells B T)).alloc (.cells C T)) (w.heap.size+1) B∧
 Box (((w.alloc (.cells A T)).alloc (.cells B T)).alloc (.cells C T)) (w.heap.size+1+1) C∧Below w.heap.size w (((w.alloc (.cells A T)).alloc (.cells B T)).alloc (.cells C T)):=by
 refine⟨((Box.new w A T).alloc _).alloc _,?_,?_,(((Below.refl _ _).alloc (Nat.le_refl _) _).alloc (by simp) _).alloc (by simp;omega) _⟩
 ·have:=(Box.new (w.alloc (.cells A T)) B T).alloc (.cells C T)
  rwa [World.size_alloc]at this
 ·have:=Box.new ((w.alloc (.cells A T)).alloc (.cells B T)) C T
  rwa [World.size_alloc,World.size_alloc]at this
theorem lt_of_pow{t:Int}{j:Nat}(h0:0<t)(h:t*2^j<big):t<big:=by
 have:=Int.mul_le_mul_of_nonneg_left (show(1:Int)≤2^j from p2pos j) (Int.le_of_lt h0)
 omega
theorem addRaw(w:World)(hE:Env w)(sx sy:Bool)(a:Addr)(la ca:Nat)(b:Addr)(lb cb:Nat)(tx ty ex ey m:Int)(hx:Nt w (.slice (some a) la ca) tx)(hy:Nt w (.slice (some b) lb cb) ty)(h0:0<tx)(h1:0<ty)
 (e0: -1000000≤ex∧ex≤1000000) (e1: -1000000≤ey∧ey≤1000000) (hm:m=min ex ey) (hbx:tx*2^(ex-m).toNat<big) (hby:ty*2^(ey-m).toNat<big) (hbb:tx*2^(ex-m).toNat+ty*2^(ey-m).toNat<big):
 Calls Tryz.prog 79 #[.agg #[.bool sx,.slice (some a) la ca,.slice none 0 0,.int .i64 ex],.agg #[.bool sy,.slice (some b) lb cb,.slice none 0 0,.int .i64 ey]] w
  (DnPost w (sg sx (tx*2^(ex-m).toNat)+sg sy (ty*2^(ey-m).toNat)) m):=by
 have hmx:m≤ex∧m≤ey:=by omega
 have hmb: -1000000≤m∧m≤1000000:=by omega
 obtain⟨hmx1,hmx2⟩:=hmx
 obtain⟨hmb1,hmb2⟩:=hmb
 obtain⟨e00,e01⟩:=e0
 obtain⟨e10,e11⟩:=e1
 have x1:IntKind.i64.wrap (ex-m)=ex-m:=IntWalk.i64_in _ (by omega)
 have x2:IntKind.i64.wrap (ey-m)=ey-m:=IntWalk.i64_in _ (by omega)
 have HE:=Lib.hid hE
 have HX:=Lib.hid hx
 have HY:=Lib.hid hy
 have HBX:=Lib.hid (And.intro hbx (And.intro hby hbb))
 have HP:=Lib.hid (And.intro h0 h1)
 clear hE hx hy hbx hby hbb h0 h1
 have hmn:min ex ey=m:=hm.symm
 clear hm
 go_enter Tryz.func79,Tryz.ntmps79
 go_wp2_with (go_at_call 153;refine(common_left _ _ _ _).mono ?_;rintro en w' ⟨rfl,rfl⟩)
 obtain⟨hA,hB,hC,hW0⟩:=boxes3 w #[.bool sx,.slice (some a) la ca,.slice none 0 0,.int .i64 ex] #[.bool sy,.slice (some b) lb cb,.slice none 0 0,.int .i64 ey] #[.bool false,.slice none 0 0,.slice none 0 0,.int .i64 0] 51
 generalize hW:((w.alloc (.cells #[.bool sx,.slice (some a) la ca,.slice none 0 0,.int .i64 ex] 51)).alloc (.cells #[.bool sy,.slice (some b) lb cb,.slice none 0 0,.int .i64 ey] 51)).alloc (.cells #[.bool false,.slice none 0 0,.slice none 0 0,.int .i64 0] 51)=W at hA hB hC hW0⊢
 clear hW
 generalize hg:w.heap.size=g at hA hB hC
 have HG:=Lib.hid hg
 clear hg
 have HW:=Lib.hid hW0
 have HA:=Lib.hid hA
 have HB:=Lib.hid hB
 have HC:=Lib.hid hC
 clear hW0
 have cA:=hA.cell
 have cB:=hB.cell
 clear hA hB hC
 go_quiet ((go_at_call 154;exact Calls.quiet_of_same ((without_nil _ _ _ _).mono fun _ _ h=>⟨h.1,h.2.symm⟩)))
 go_wp2_with fail
 generalize hd:W.drewN nq=W1
 have hD:Drw W W1:=hd▸Drw.step W _
 have HA1:=Lib.hid (HA.out.below (hD.below _))
 have HB1:=Lib.hid (HB.out.below (hD.below _))
 have HC1:=Lib.hid (HC.out.below (hD.below _))
 have HW1:=Lib.hid (HW.out.trans (hD.below _))
 clear hd hD cA cB HA HB HC HW
 have cA:=HA1.out.cell
 have cB:=HB1.out.cell
 go_still_tail 8,(by kernel_rfl)
 still_call ((times_left _ _ _ _).mono fun _ _ h=>⟨h.1,h.2.symm⟩)
 repeat still_step
 refine wpStill_nil ?_
 change wpList _ _ _ _ _ W1.drew
 have hD:Drw W1 W1.drew:=Drw.step W1 1
 generalize W1.drew=W2 at hD⊢
 have HA2:=Lib.hid (HA1.out.below (hD.below _))
 have HB2:=Lib.hid (HB1.out.below (hD.below _))
 have HC2:=Lib.hid (HC1.out.below (hD.below _))
 have HW2:=Lib.hid (HW1.out.trans (hD.below _))
 clear hD cA cB HA1 HB1 HC1 HW1
 go_wp2_with fail
 refine(left_any W2 _ tx (HX.out.below HW2.out) (lt_of_pow HP.out.1 HBX.out.1) (ex-m) (by omega) (by omega)).mono ?_
 rintro en W3 ⟨va,rfl,h1,hb⟩
 obtain⟨ao,la2,ca2,rfl⟩:=h1.shape
 have HA3:=Lib.hid (HA2.out.below hb)
 have HB3:=Lib.hid (HB2.out.below hb)
 have HC3:=Lib.hid (HC2.out.below hb)
 have HW3:=Lib.hid (HW2.out.trans (hb.mono HW2.out.size))
 have HT1:=Lib.hid h1
 clear h1 hb HA2 HB2 HC2 HW2
 have cA:=HA3.out.cell
 have cB:=HB3.out.cell
 go_wp2_with fail
 go_still_tail 8,(by kernel_rfl)
 still_call ((times_left _ _ _ _).mono fun _ _ h=>⟨h.1,h.2.symm⟩)
 repeat still_step
 refine wpStill_nil ?_
 change wpList _ _ _ _ _ W3.drew
 have hD:Drw W3 W3.drew:=Drw.step W3 1
 generalize W3.drew=W4 at hD⊢
 have HA4:=Lib.hid (HA3.out.below (hD.below _))
 have HB4:=Lib.hid (HB3.out.below (hD.below _))
 have HC4:=Lib.hid (HC3.out.below (hD.below _))
 have HT14:=Lib.hid (HT1.out.below (hD.below _))
 have HW4:=Lib.hid (HW3.out.trans (hD.below _))
 clear hD cA cB HA3 HB3 HC3 HW3 HT1
 go_wp2_with fail
 refine(left_any W4 _ ty (HY.out.below HW4.out) (lt_of_pow HP.out.2 HBX.out.2.1) (ey-m) (by omega) (by omega)).mono ?_
 rintro en W5 ⟨vb,rfl,h1,hb⟩
 obtain⟨bo,lb2,cb2,rfl⟩:=h1.shape
 have HA5:=Lib.hid (HA4.out.below hb)
 have HB5:=Lib.hid (HB4.out.below hb)
 have HC5:=Lib.hid (HC4.out.below hb)
 have HT15:=Lib.hid (HT14.out.below hb)
 have HW5:=Lib.hid (HW4.out.trans (hb.mono HW4.out.size))
 have HT2:=Lib.hid h1
 clear h1 hb HA4 HB4 HC4 HW4 HT14
 have cA:=HA5.out.cell
 have cB:=HB5.out.cell
 go_wp2_with fail
 refine(sum_any W5 sx sy _ _ _ _ HT15.out HT2.out HBX.out.1 HBX.out.2.1 (Int.mul_pos HP.out.1 (p2pos _)) (Int.mul_pos HP.out.2 (p2pos _))).mono ?_
 rintro en W6 ⟨sn,vn,n,rfl,h1,hX,hb⟩
 obtain⟨no,ln,cn,rfl⟩:=h1.shape
 have hnn:=h1.isNone
 have hn0:=h1.nonneg
 have HN:Hid (0≤n∧n<big∧sg sn n=sg sx (tx*2^(ex-m).toNat)+sg sy (ty*2^(ey-m).toNat)):=Lib.hid ⟨hn0,by
  have h3:=HBX.out.2.2
  have h4:=Int.mul_pos HP.out.1 (p2pos (ex-m).toNat)
  have h5:=Int.mul_pos HP.out.2 (p2pos (ey-m).toNat)
  generalize tx*2^(ex-m).toNat=A at*
  generalize ty*2^(ey-m).toNat=B at*
  cases sn<;>cases sx<;>cases sy<;>simp[sg]at hX<;>omega,hX⟩
 have HB6:=Lib.hid (HB5.out.below hb)
 have HC6:=Lib.hid (HC5.out.below hb)
 have HW6:=Lib.hid (HW5.out.trans (hb.mono HW5.out.size))
 have HT:=Lib.hid h1
 clear hX h1 hb HA5 HB5 HC5 HT15 HT2 HW5 cA cB hn0 x1 x2
 generalize hK:sg sx (tx*2^(ex-m).toNat)+sg sy (ty*2^(ey-m).toNat)=K at HN
 have HKd:=Lib.hid hK
 clear hK
 have hG:w.heap.size≤g+1+1:=by have:=HG.out;omega
 by_cases hz:n=0
 ·subst hz
  have hv:=HT.out.nil
  injection hv with hv1 hv2 hv3
  subst hv1 hv2 hv3
  have hK0:Hid (K=0):=Lib.hid (by have:=HN.out.2.2;rw[sg_zero]at this;exact this.symm)
  clear hnn
  have cC:=HC6.out.cell
  have fC:=HC6.out.free
  have lC:=HC6.out.lt
  go_wp2_with fail
  refine bodyPost_ret (v:=.agg #[.bool false,.slice none 0 0,.slice none 0 0,.int .i64 0]) (by simp[results,Tryz.results79,go_sem,cC,lC]) rfl ?_
  have ho:=Stored.only (g+1+1) W6 false none 0 0 none 0 0 0
  refine⟨_,rfl,⟨false,0,0,⟨_,_,_,_,_,_,rfl,Nt.zero _,.inl ⟨rfl,rfl⟩⟩,.inl ⟨rfl,rfl,rfl,HKd.out.trans hK0.out⟩⟩,?_⟩
  exact HW6.out.trans (ho.below HW6.out.size hG)
 ·have hnn':no.isNone=false:=by rw[hnn];simpa using hz
  clear hnn
  cases no with
  |none=>simp at hnn'
  |some a2=>
   clear hnn'
   have HZ:=Lib.hid hz
   clear hz
   go_wp2_with fail
   refine(odd_any W6 (HE.out.below HW6.out) _ n HT.out HN.out.2.1 HZ.out).mono ?_
   rintro en W7 ⟨v7,t7,z7,rfl,h1,h2,h3,hb⟩
   obtain⟨bo7,lb7,cb7,rfl⟩:=h1.shape
   have hp:=two_le_pow h3 (by have:=HN.out.1;have:=HZ.out;omega) HN.out.2.1
   have hz7:=hp.1
   have HB7:=Lib.hid (HB6.out.below hb)
   have HC7:=Lib.hid (HC6.out.below hb)
   have HW7:=Lib.hid (HW6.out.trans (hb.mono HW6.out.size))
   have HT7:=Lib.hid (And.intro h1 (And.intro h2 (And.intro h3 hp.2)))
   have hnn:=h1.isNone
   have hp2:=hp.2.1
   clear h1 h2 h3 hb hp HB6 HC6 HT HW6
   cases bo7 with
   |none=>have:t7=0:=by simpa using hnn
          omega
   |some a7=>
    clear hnn hp2
    have cB:=HB7.out.cell
    go_wp2_with (first
     |(go_at_call 153;refine(common_right _ _ _ _).mono ?_;rintro en w' ⟨rfl,rfl⟩)
     |(go_at_call 154;refine(without_nil _ _ _ _).mono ?_;rintro en w' ⟨rfl,rfl⟩)
     |(go_at_call 149;refine(times_right _ _ _ _).mono ?_;rintro en w' ⟨rfl,rfl⟩)
     |fail)
    refine(fracD W7 (HE.out.below HW7.out) sn _ t7 (m+z7) HT7.out.1 (by have h1:=HT7.out.2.2.2.2;have h2:=HN.out.2.1;omega) (by omega) (by omega)).mono ?_
    rintro en W8 ⟨v8,rfl,h8,hb⟩
    obtain⟨s8,o8,l8,c8,o82,l82,c82,x8,rfl⟩:=h8.shape
    have HC8:=Lib.hid (HC7.out.below hb)
    have HW8:=Lib.hid (HW7.out.trans (hb.mono HW7.out.size))
    have H8:=Lib.hid h8
    clear h8 hb cB
    have cC:=HC8.out.cell
    have fC:=HC8.out.free
    have lC:=HC8.out.lt
    go_wp2_with fail
    refine bodyPost_ret (v:=.agg #[.bool s8,.slice o8 l8 c8,.slice o82 l82 c82,.int .i64 x8]) (by simp[results,Tryz.results79,go_sem,cC,lC]) rfl ?_
    have ho:=Stored.only (g+1+1) W8 s8 o8 l8 c8 o82 l82 c82 x8
    have hd:=(H8.out.only ho HC8.out.noW).scale z7
    rw[show m+(z7:Int)-z7=m by omega,show sg sn t7*2^z7=K by
     rw[←HN.out.2.2,HT7.out.2.2.1,Int.mul_comm]
     cases sn
     ·rfl
     ·exact Int.mul_neg _ _,←HKd.out]at hd
    exact⟨_,rfl,hd,HW8.out.trans (ho.below HW8.out.size hG)⟩
end Go.Proofs.YtedhbbjlbgpafaaGreatDoor
namespace Go.Proofs.YtedhbbjlbgpafaaGreatDoor
open Go.RowKit Go.Shelf
attribute [local go_sem] eqNil neqNil
theorem addZero(w:World)(sx sy:Bool)(bo:Option Addr)(lb cb:Nat)(bo2:Option Addr)(lb2 cb2:Nat)(bo3:Option Addr)(lb3 cb3:Nat)(ex ey:Int):
 Calls Tryz.prog 79 #[.agg #[.bool sx,.slice none 0 0,.slice bo lb cb,.int .i64 ex],.agg #[.bool sy,.slice bo2 lb2 cb2,.slice bo3 lb3 cb3,.int .i64 ey]] w
  fun en w'=>en=.returned (.agg #[.bool sy,.slice bo2 lb2 cb2,.slice bo3 lb3 cb3,.int .i64 ey])∧Below w.heap.size w w':=by
 go_enter Tryz.func79,Tryz.ntmps79
 go_wp2_with fail
 refine bodyPost_ret (v:=.agg #[.bool sy,.slice bo2 lb2 cb2,.slice bo3 lb3 cb3,.int .i64 ey]) (by simp[results,Tryz.results79,go_sem]) rfl ?_
 exact⟨rfl,(((Below.refl _ _).alloc (Nat.le_refl _) _).alloc (by simp) _).alloc (by simp;omega) _⟩
theorem addZero2(w:World)(sx sy:Bool)(a:Addr)(la ca:Nat)(bo:Option Addr)(lb cb:Nat)(bo3:Option Addr)(lb3 cb3:Nat)(ex ey:Int):
 Calls Tryz.prog 79 #[.agg #[.bool sx,.slice (some a) la ca,.slice bo lb cb,.int .i64 ex],.agg #[.bool sy,.slice none 0 0,.slice bo3 lb3 cb3,.int .i64 ey]] w
  fun en w'=>en=.returned (.agg #[.bool sx,.slice (some a) la ca,.slice bo lb cb,.int .i64 ex])∧Below w.heap.size w w':=by
 go_enter Tryz.func79,Tryz.ntmps79
 go_wp2_with fail
 refine bodyPost_ret (v:=.agg #[.bool sx,.slice (some a) la ca,.slice bo lb cb,.int .i64 ex]) (by simp[results,Tryz.results79,go_sem]) rfl ?_
 exact⟨rfl,(((Below.refl _ _).alloc (Nat.le_refl _) _).alloc (by simp) _).alloc (by simp;omega) _⟩
def sml:Int:=2^60000
theorem sml_big:2*sml<big:=by
 unfold sml big
 rw[pw_two,show(64*1000)=60000+4000 from rfl,Int.pow_add,Int.mul_comm]
 have h:=p2pos 60000
 have h2:(2:Int)<2^4000:=by decide+kernel
 exact Int.mul_lt_mul_of_pos_left h2 h
theorem abs_sg{s:Bool}{x:Int}(h:0≤x):(-sml<sg s x∧sg s x<sml)↔x<sml:=by
 cases s<;>simp[sg]<;>omega
theorem exp_lt{t:Int}{j:Nat}(h0:0<t)(h:t*2^j<sml):j<60000:=by
 apply Classical.byContradiction
 intro hc
 have h1:=Int.mul_le_mul_of_nonneg_right (show 1≤t by omega) (Int.le_of_lt (p2pos j))
 have h2:(2:Int)^60000*1≤2^60000*2^(j-60000):=Int.mul_le_mul_of_nonneg_left (show(1:Int)≤2^(j-60000)from p2pos _) (Int.le_of_lt (p2pos _))
 rw[←Int.pow_add,show 60000+(j-60000)=j by omega]at h2
 unfold sml at h
 omega
theorem add_any(w:World)(hE:Env w)(vx vy:Value)(K L k:Int)(hx:Dn w vx K k)(hy:Dn w vy L k)(hK: -sml<K∧K<sml)(hL: -sml<L∧L<sml)(hk: -50000≤k∧k≤50000):
 Calls Tryz.prog 79 #[vx,vy] w (DnPost w (K+L) k):=by
 have hx0:=hx
 have hy0:=hy
 obtain⟨sx,tx,ex,nx,dx⟩:=hx
 obtain⟨sy,ty,ey,ny,dy⟩:=hy
 obtain⟨bo,lb,cb,rfl,tx1⟩:=nx.nilb
 obtain⟨bo2,lb2,cb2,rfl,ty1⟩:=ny.nilb
 have h2:=sml_big
 rcases dx with⟨rfl,rfl,rfl,rfl⟩|⟨ox,px,jx,rfl,rfl⟩
 ·have h:=tx1.nil
  injection h with h1 h2 h3
  subst h1 h2 h3
  refine(addZero w _ _ _ _ _ _ _ _ _ _ _ _ _).mono ?_
  rintro en w' ⟨rfl,hb⟩
  rw[Int.zero_add]
  exact⟨_,rfl,hy0.below hb,hb⟩
 ·obtain⟨a,rfl⟩: ∃a,bo=some a:=by
   cases bo with
   |none=>have:=tx1.isNone;simp at this;omega
   |some a=>exact⟨a,rfl⟩
  rcases dy with⟨rfl,rfl,rfl,rfl⟩|⟨oy,py,jy,rfl,rfl⟩
  ·have h:=ty1.nil
   injection h with h1 h2 h3
   subst h1 h2 h3
   refine(addZero2 w _ _ _ _ _ _ _ _ _ _ _ _ _).mono ?_
   rintro en w' ⟨rfl,hb⟩
   rw[Int.add_zero]
   exact⟨_,rfl,hx0.below hb,hb⟩
  ·obtain⟨a2,rfl⟩: ∃a,bo2=some a:=by
    cases bo2 with
    |none=>have:=ty1.isNone;simp at this;omega
    |some a=>exact⟨a,rfl⟩
   have mx: ∀(s:Bool) (t:Int) (j:Nat),sg s t*2^j=sg s (t*2^j):=by
    intro s t j;cases s
    ·rfl
    ·exact Int.neg_mul _ _
   rw[mx]at hK hL
   have qx:=(abs_sg (Int.le_of_lt (Int.mul_pos px (p2pos jx)))).1 hK
   have qy:=(abs_sg (Int.le_of_lt (Int.mul_pos py (p2pos jy)))).1 hL
   have ix:=exp_lt px qx
   have iy:=exp_lt py qy
   obtain⟨i,hi⟩: ∃i:Nat,i=min jx jy:=⟨_,rfl⟩
   obtain⟨dx,hdx⟩: ∃d:Nat,jx=i+d:=⟨jx-i,by omega⟩
   obtain⟨dy,hdy⟩: ∃d:Nat,jy=i+d:=⟨jy-i,by omega⟩
   have lex: ∀(t:Int) (d:Nat),0<t→t*2^(i+d)<sml→t*2^d<sml:=by
    intro t d ht h
    rw[Nat.add_comm,Int.pow_add,←Int.mul_assoc]at h
    have:=Int.mul_le_mul_of_nonneg_left (show(1:Int)≤2^i from p2pos i) (Int.le_of_lt (Int.mul_pos ht (p2pos d)))
    omega
   rw[hdx]at qx
   rw[hdy]at qy
   have rx:=lex tx dx px qx
   have ry:=lex ty dy py qy
   have ax:(k+(jx:Int)-(k+(i:Int))).toNat=dx:=by omega
   have ay:(k+(jy:Int)-(k+(i:Int))).toNat=dy:=by omega
   have:=addRaw w hE sx sy a lb cb a2 lb2 cb2 tx ty (k+jx) (k+jy) (k+i) tx1 ty1 px py (by omega) (by omega) (by omega) (by rw[ax];omega) (by rw[ay];omega) (by rw[ax,ay];omega)
   rw[ax,ay]at this
   refine this.mono ?_
   rintro en w' ⟨v,rfl,hv,hb⟩
   have hs:=hv.scale i
   rw[show k+(i:Int)-i=k by omega]at hs
   refine⟨v,rfl,?_,hb⟩
   rw[mx,mx,hdx,hdy]
   rw[show sg sx (tx*2^(i+dx))+sg sy (ty*2^(i+dy))=(sg sx (tx*2^dx)+sg sy (ty*2^dy))*2^i by
    rw[Int.add_mul,mx,mx,Int.mul_assoc,Int.mul_assoc,←Int.pow_add,←Int.pow_add,Nat.add_comm i dx,Nat.add_comm i dy]]
   exact hs
end Go.Proofs.YtedhbbjlbgpafaaGreatDoor
namespace Go.Proofs.YtedhbbjlbgpafaaGreatDoor
open Go.RowKit Go.Shelf
attribute [local go_sem] eqNil neqNil
theorem neg_dn(w:World)(v:Value)(K k:Int)(h:Dn w v K k):Calls Tryz.prog 152 #[v] w (DnPost w (-K) k):=by
 obtain⟨s,t,e,h1,h2⟩:=h
 refine(neg_any w v s t 1 e h1).mono fun en w' hp=>hp.dn ?_
 rcases h2 with⟨rfl,rfl,rfl,rfl⟩|⟨a,b,j,rfl,rfl⟩
 ·exact .inl ⟨rfl,rfl,rfl,rfl⟩
 ·refine .inr ⟨a,b,j,rfl,?_⟩
  have:decide (t=0)=false:=by simp;omega
  rw[this]
  cases s<;>simp[sg,Int.neg_mul]
theorem abs_dn(w:World)(v:Value)(K k:Int)(h:Dn w v K k):Calls Tryz.prog 85 #[v] w (DnPost w K.natAbs k):=by
 obtain⟨s,t,e,h1,h2⟩:=h
 refine(abs_any w v s t 1 e h1).mono fun en w' hp=>hp.dn ?_
 rcases h2 with⟨rfl,rfl,rfl,rfl⟩|⟨a,b,j,rfl,rfl⟩
 ·exact .inl ⟨rfl,rfl,rfl,rfl⟩
 ·refine .inr ⟨a,b,j,rfl,?_⟩
  have h3:=Int.mul_pos b (p2pos j)
  have:sg s t*2^j=sg s (t*2^j):=by
   cases s
   ·rfl
   ·exact Int.neg_mul _ _
  rw[this]
  clear this h1
  show((sg s (t*2^j)).natAbs:Int)=t*2^j
  generalize hx:t*2^j=x at h3⊢
  clear hx
  cases s<;>simp only[sg,if_true,if_false,Bool.false_eq_true]<;>omega
theorem sub_any(w:World)(hE:Env w)(vx vy:Value)(K L k:Int)(hx:Dn w vx K k)(hy:Dn w vy L k)(hK: -sml<K∧K<sml)(hL: -sml<L∧L<sml)(hk: -50000≤k∧k≤50000):
 Calls Tryz.prog 77 #[vx,vy] w (DnPost w (K-L) k):=by
 obtain⟨sx,ox,lx,cx,ox2,lx2,cx2,ex,rfl⟩:=hx.shape
 obtain⟨sy,oy,ly,cy,oy2,ly2,cy2,ey,rfl⟩:=hy.shape
 have HE:=Lib.hid hE
 have HX:=Lib.hid hx
 have HY:=Lib.hid hy
 have HP:=Lib.hid (And.intro hK (And.intro hL hk))
 clear hE hx hy hK hL hk
 go_enter Tryz.func77,Tryz.ntmps77
 go_wp2_with fail
 obtain⟨hA,hB,hC,hW0⟩:=boxes3 w #[.bool sx,.slice ox lx cx,.slice ox2 lx2 cx2,.int .i64 ex] #[.bool sy,.slice oy ly cy,.slice oy2 ly2 cy2,.int .i64 ey] #[.bool false,.slice none 0 0,.slice none 0 0,.int .i64 0] 51
 generalize hW:((w.alloc (.cells #[.bool sx,.slice ox lx cx,.slice ox2 lx2 cx2,.int .i64 ex] 51)).alloc (.cells #[.bool sy,.slice oy ly cy,.slice oy2 ly2 cy2,.int .i64 ey] 51)).alloc (.cells #[.bool false,.slice none 0 0,.slice none 0 0,.int .i64 0] 51)=W at hA hB hC hW0⊢
 clear hW
 generalize hg:w.heap.size=g at hA hB hC
 have HG:=Lib.hid hg
 clear hg
 have HW:=Lib.hid hW0
 have HA:=Lib.hid hA
 have HB:=Lib.hid hB
 have HC:=Lib.hid hC
 clear hW0
 have cA:=hA.cell
 have cB:=hB.cell
 clear hA hB hC
 have hneg: ∀W':World,Drw W W'→Calls Tryz.prog 152 #[.agg #[.bool sy,.slice oy ly cy,.slice oy2 ly2 cy2,.int .i64 ey]] W' fun en w1=> ∃s o l c o2 l2 c2 e,en=.returned (.agg #[.bool s,.slice o l c,.slice o2 l2 c2,.int .i64 e])∧Hid (Dn w1 (.agg #[.bool s,.slice o l c,.slice o2 l2 c2,.int .i64 e]) (-L) k∧Below w.heap.size w w1∧Box w1 (g+1+1) #[.bool false,.slice none 0 0,.slice none 0 0,.int .i64 0])∧(∀q,w1.cell? ⟨g,q,none⟩=(#[.bool sx,.slice ox lx cx,.slice ox2 lx2 cx2,.int .i64 ex]:Array Value)[q]?):=by
  intro W' hd
  have h1:=HW.out.trans (hd.below w.heap.size)
  refine(neg_dn W' _ L k (HY.out.below h1)).mono ?_
  rintro en w1 ⟨v,rfl,hv,hb⟩
  obtain⟨s,o,l,c,o2,l2,c2,e,rfl⟩:=hv.shape
  exact⟨s,o,l,c,o2,l2,c2,e,rfl,Lib.hid ⟨hv,h1.trans (hb.mono h1.size),(HC.out.below (hd.below _)).below hb⟩,((HA.out.below (hd.below _)).below hb).cell⟩
 have HNEG:=Lib.hid hneg
 clear hneg
 have hadd: ∀(w1:World) (v:Value),Hid (Dn w1 v (-L) k∧Below w.heap.size w w1∧Box w1 (g+1+1) #[.bool false,.slice none 0 0,.slice none 0 0,.int .i64 0])→Calls Tryz.prog 79 #[.agg #[.bool sx,.slice ox lx cx,.slice ox2 lx2 cx2,.int .i64 ex],v] w1 fun en w2=> ∃s o l c o2 l2 c2 e,en=.returned (.agg #[.bool s,.slice o l c,.slice o2 l2 c2,.int .i64 e])∧Hid (Dn w2 (.agg #[.bool s,.slice o l c,.slice o2 l2 c2,.int .i64 e]) (K-L) k∧Below w.heap.size w w2∧Box w2 (g+1+1) #[.bool false,.slice none 0 0,.slice none 0 0,.int .i64 0])∧(∀q,w2.cell? ⟨g+1+1,q,none⟩=(#[.bool false,.slice none 0 0,.slice none 0 0,.int .i64 0]:Array Value)[q]?)∧(∀q,w2.frozen? ⟨g+1+1,q,none⟩=false)∧g+1+1<w2.heap.size:=by
  intro w1 v H1
  obtain⟨h1,h2,h3⟩:=H1.out
  obtain⟨hK,hL,hk⟩:=HP.out
  refine(add_any w1 (HE.out.below h2) _ v K (-L) k (HX.out.below h2) h1 hK (by omega) hk).mono ?_
  rintro en w2 ⟨v2,rfl,hv,hb⟩
  obtain⟨s,o,l,c,o2,l2,c2,e,rfl⟩:=hv.shape
  exact⟨s,o,l,c,o2,l2,c2,e,rfl,Lib.hid ⟨hv,h2.trans (hb.mono h2.size),h3.below hb⟩,(h3.below hb).cell,(h3.below hb).free,(h3.below hb).lt⟩
 have HADD:=Lib.hid hadd
 clear hadd
 go_region_with (first
  |(go_at_call 152;refine(HNEG.out _ (Drw.step W 1)).mono ?_;rintro en w1 ⟨s,o,l,c,o2,l2,c2,e,rfl,H1,cA1⟩)
  |(go_at_call 79;refine(HADD.out _ _ H1).mono ?_;rintro en w2 ⟨s',o',l',c',o2',l2',c2',e',rfl,H2,cC,fC,lC⟩))
 all_goals
  clear cC fC lC
  have cC:=H2.out.2.2.cell
  have fC:=H2.out.2.2.free
  have lC:=H2.out.2.2.lt
  go_wp2_with fail
  refine bodyPost_ret (v:=.agg #[.bool s',.slice o' l' c',.slice o2' l2' c2',.int .i64 e']) (by simp[results,Tryz.results77,go_sem,cC,lC]) rfl ?_
  have ho:=Stored.only (g+1+1) w2 s' o' l' c' o2' l2' c2' e'
  exact⟨_,rfl,H2.out.1.only ho H2.out.2.2.noW,H2.out.2.1.trans (ho.below H2.out.2.1.size (by have:=HG.out;omega))⟩
end Go.Proofs.YtedhbbjlbgpafaaGreatDoor
namespace Go.Proofs.YtedhbbjlbgpafaaGreatDoor
open Go.RowKit Go.Shelf
attribute [local go_sem] eqNil neqNil
theorem or_high(x y:Int)(d:Nat)(hd:d≤63)(hx0:0≤x)(hx:x<2^d)(hy0:0≤y)(hy:y<18446744073709551616):
 bits BinOp.or IntKind.u64 (IntKind.u64.wrap (y*2^d)) x=y*2^d%18446744073709551616+x:=by
 have h:=or_low x y d hd hx0 hx hy0 hy
 obtain⟨x,rfl⟩:=Int.eq_ofNat_of_zero_le hx0
 obtain⟨m,hm⟩: ∃m:Nat,IntKind.u64.wrap (y*2^d)=m:=⟨(IntKind.u64.wrap (y*2^d)).toNat,by
  have:0≤IntKind.u64.wrap (y*2^d):=by rw[IntKind.wrap_u64];exact Int.emod_nonneg _ (by omega)
  omega⟩
 have hm1:m<18446744073709551616:=by
  have:IntKind.u64.wrap (y*2^d)<18446744073709551616:=by rw[IntKind.wrap_u64];exact Int.emod_lt_of_pos _ (by omega)
  omega
 have e64:(18446744073709551616:Int)=2^(64-d)*2^d:=by rw[←Int.pow_add,show 64-d+d=64 by omega];rfl
 have hx1:x<18446744073709551616:=by
  have:(2:Int)^d≤18446744073709551616:=by
   rw[e64]
   have:=Int.mul_le_mul_of_nonneg_right (show(1:Int)≤2^(64-d)from p2pos _) (Int.le_of_lt (p2pos d))
   omega
  omega
 rw[hm]at h⊢
 rw[bits_or_u64_nat _ _ hx1 hm1]at h
 rw[bits_or_u64_nat _ _ hm1 hx1,Nat.or_comm,h]
 omega
def hw(zs:List Int)(u j:Nat):Int:=gd zs j*2^u%18446744073709551616+(if j=0 then 0 else gd zs (j-1)/2^(64-u))
theorem hw_zero(zs:List Int)(u:Nat):hw zs u 0=gd zs 0*2^u%18446744073709551616:=by simp[hw]
theorem hw_succ(zs:List Int)(u j:Nat):hw zs u (j+1)=gd zs (j+1)*2^u%18446744073709551616+gd zs j/2^(64-u):=by simp[hw]
theorem split_word(z:Int)(u:Nat)(hu:u≤63):z*2^u=z*2^u%18446744073709551616+18446744073709551616*(z/2^(64-u)):=by
 have e64:(18446744073709551616:Int)=2^(64-u)*2^u:=by rw[←Int.pow_add,show 64-u+u=64 by omega];rfl
 have h1:=Int.mul_ediv_add_emod (z*2^u) 18446744073709551616
 have h2:z*2^u/18446744073709551616=z/2^(64-u):=by
  rw[e64,Int.mul_ediv_mul_of_pos_left _ _ (p2pos u)]
 rw[h2]at h1
 omega
theorem div_lt_p2(z:Int)(u:Nat)(hu:u≤63)(h:z<18446744073709551616):z/2^(64-u)<2^u:=by
 have e64:(18446744073709551616:Int)=2^(64-u)*2^u:=by rw[←Int.pow_add,show 64-u+u=64 by omega];rfl
 rw[Int.ediv_lt_iff_lt_mul (p2pos _),Int.mul_comm,←e64];exact h
theorem hw_word{zs:List Int}(hwd:Wd zs)(u:Nat)(hu:u≤63)(j:Nat):0≤hw zs u j∧hw zs u j<pw:=by
 have e64:(18446744073709551616:Int)=2^(64-u)*2^u:=by rw[←Int.pow_add,show 64-u+u=64 by omega];rfl
 have hr0:0≤gd zs j%2^(64-u):=Int.emod_nonneg _ (by have:=p2pos (64-u);omega)
 have hr1:gd zs j%2^(64-u)<2^(64-u):=Int.emod_lt_of_pos _ (p2pos _)
 have lo:gd zs j*2^u%18446744073709551616=(gd zs j%2^(64-u))*2^u:=by
  conv=>lhs;rw[e64]
  rw[Int.mul_comm (gd zs j),Int.mul_comm (2^(64-u)),Int.mul_emod_mul_of_pos _ _ (p2pos u),Int.mul_comm]
 have b1:(gd zs j%2^(64-u))*2^u≤18446744073709551616-2^u:=by
  have:=Int.mul_le_mul_of_nonneg_right (show gd zs j%2^(64-u)≤2^(64-u)-1 by omega) (Int.le_of_lt (p2pos u))
  rw[Int.sub_mul,←e64]at this
  omega
 have b0:0≤(gd zs j%2^(64-u))*2^u:=Int.mul_nonneg hr0 (Int.le_of_lt (p2pos u))
 have c: ∀i,0≤gd zs i/2^(64-u)∧gd zs i/2^(64-u)<2^u:=fun i=>
  ⟨Int.ediv_nonneg (gd_bounds hwd i).1 (Int.le_of_lt (p2pos _)),div_lt_p2 _ u hu (gd_bounds hwd i).2⟩
 unfold pw
 cases j with
 |zero=>rw[hw_zero,lo];have:=p2pos u;omega
 |succ j=>rw[hw_succ,lo];have:=c j;omega
theorem nv_hw_part(zs:List Int)(u:Nat)(hu:u≤63): ∀j,nv ((List.range j).map (hw zs u))+pw^j*(if j=0 then 0 else gd zs (j-1)/2^(64-u))=nv (zs.take j)*2^u:=by
 intro j
 induction j with
 |zero=>simp[nv]
 |succ j ih=>
  rw[List.range_succ,List.map_append,nv_append,nv_take_all]
  simp only[List.map_cons,List.map_nil,nv,List.length_map,List.length_range,Nat.add_sub_cancel,Nat.add_one_ne_zero,if_false]
  have h:=split_word (gd zs j) u hu
  rw[Int.add_mul,←ih,Int.mul_assoc (pw^j),h,Int.pow_succ,show pw=18446744073709551616 from rfl]
  unfold hw
  generalize (if j=0 then(0:Int)else gd zs (j-1)/2^(64-u))=c
  generalize gd zs j*2^u%18446744073709551616=r
  generalize gd zs j/2^(64-u)=q
  grind
theorem nv_hw{zs:List Int}(u:Nat)(hu:u≤63)(hp:0<zs.length)(ht:gd zs (zs.length-1)/2^(64-u)=0):nv ((List.range zs.length).map (hw zs u))=nv zs*2^u:=by
 have h:=nv_hw_part zs u hu zs.length
 rw[if_neg (by omega),ht,List.take_length]at h
 simpa using h
def headw(zs:List Int)(u i:Nat):Int:=if i<zs.length then hw zs u (zs.length-1-i)else 0
theorem head_any(w:World)(b off cap:Nat)(zs:List Int)(n:Int)(h:Ns w b off cap zs n)(hn:n<big)(i:Nat)(hi:i≤1000):
 Calls Tryz.prog 215 #[.slice (some ⟨b,off,none⟩) zs.length cap,.int .i64 i] w (DrewPost w (.int .u64 (headw zs (64-blen (gd zs (zs.length-1))) i))):=by
 have hl:=h.len hn
 have hp:=h.pos
 have hcap:=h.cap
 have H:=Lib.hid h
 obtain⟨t0,t1⟩:=gd_bounds h.wd (zs.length-1)
 have htop:=h.top
 have ht:=h.row (zs.length-1) (by omega)
 obtain⟨s1,s2,s3⟩:=blen_spec (show 0<gd zs (zs.length-1)by omega)
 have hbl:=blen_le64 t1
 have hrow:=h.row
 clear h hn s1 s2
 obtain⟨l,hl'⟩: ∃l,zs.length=l:=⟨_,rfl⟩
 have HL:=Lib.hid hl'
 unfold Row at hrow
 rw[hl']at hl hp hcap ht t0 t1 hbl s3 hrow htop⊢
 clear hl'
 obtain⟨m,rfl⟩: ∃m,l=m+1:=⟨l-1,by omega⟩
 simp only[Nat.add_sub_cancel]at*
 generalize hB:blen (gd zs m)=bl at*
 have HB:=Lib.hid hB
 clear hB htop
 by_cases hi0:i≤m
 ·obtain⟨j,rfl⟩: ∃j,m=i+j:=⟨m-i,by omega⟩
  cases j with
  |zero=>
   simp only[Nat.add_zero]at*
   have HV:Hid (headw zs (64-bl) i=IntKind.u64.wrap (gd zs 0*2^(64-bl))):=Lib.hid (by
    unfold headw
    rw[if_pos (by rw[HL.out];omega),HL.out,show i+1-1-i=0 by omega,hw_zero,IntKind.wrap_u64])
   have hc0:=hrow 0 (by omega)
   rw[Nat.add_zero]at hc0
   clear hrow
   go_enter Tryz.func215,Tryz.ntmps215
   go_wp2_with (go_at_call 214;refine(lead_any _ _ t0 t1).mono ?_;rintro en w' ⟨rfl,rfl⟩;rw[HB.out])
   go_ret
   rw[HV.out]
   exact⟨rfl,Drw.refl _⟩
  |succ j=>
   have HV:Hid (headw zs (64-bl) i=gd zs (j+1)*2^(64-bl)%18446744073709551616+gd zs j/2^(64-(64-bl))):=Lib.hid (by
    unfold headw
    rw[if_pos (by rw[HL.out];omega),HL.out,show i+(j+1)+1-1-i=j+1 by omega,hw_succ])
   have hc1:=hrow (j+1) (by omega)
   have hc0:=hrow j (by omega)
   clear hrow
   obtain⟨a0,a1⟩:=gd_bounds H.out.wd (j+1)
   obtain⟨b0,b1⟩:=gd_bounds H.out.wd j
   have x1:((i:Int)+(j+1)+1-1-i)=j+1:=by omega
   go_enter Tryz.func215,Tryz.ntmps215
   go_wp2_with (go_at_call 214;refine(lead_any _ _ t0 t1).mono ?_;rintro en w' ⟨rfl,rfl⟩;rw[HB.out])
   go_quiet (fail)
   go_wp2_with fail
   go_ret
   rw[HV.out]
   refine⟨?_,Drw.step _ _⟩
   exact congrArg (fun x=>Ending.returned (Value.int .u64 x)) (or_high (gd zs j/2^(64-(64-bl))) (gd zs (j+1)) (64-bl) (by omega) (Int.ediv_nonneg b0 (Int.le_of_lt (p2pos _))) (div_lt_p2 _ _ (by omega) b1) a0 a1)
 ·have HV:Hid (headw zs (64-bl) i=0):=Lib.hid (by unfold headw;rw[if_neg (by rw[HL.out];omega)])
  clear hrow
  go_enter Tryz.func215,Tryz.ntmps215
  go_wp2_with fail
  go_ret
  rw[HV.out]
  exact⟨rfl,Drw.refl _⟩
def padded(zs:List Int)(u n:Nat):List Int:=List.replicate (n-zs.length) 0++(List.range zs.length).map (hw zs u)
theorem padded_len(zs:List Int)(u n:Nat)(h:zs.length≤n):(padded zs u n).length=n:=by unfold padded;simp;omega
theorem padded_gd(zs:List Int)(u n j:Nat)(h:zs.length≤n)(hj:j<n):gd (padded zs u n) j=headw zs u (n-1-j):=by
 unfold padded headw gd
 by_cases h1:j<n-zs.length
 ·rw[if_neg (by omega)]
  simp[List.getElem?_append,h1]
 ·rw[if_pos (by omega)]
  simp only[List.getD_eq_getElem?_getD]
  rw[List.getElem?_append_right (by simp;omega)]
  rw[List.getElem?_map,List.getElem?_range (by simp;omega)]
  simp only[List.length_replicate,Option.map_some,Option.getD_some]
  congr 1
  omega
theorem padded_wd{zs:List Int}(h:Wd zs)(u n:Nat)(hu:u≤63):Wd (padded zs u n):=by
 unfold padded
 refine Wd_append.2 ⟨Wd_replicate _,?_⟩
 intro z hz
 obtain⟨j,_,rfl⟩:=List.mem_map.1 hz
 exact hw_word h u hu j
theorem padded_nv{zs:List Int}(hwd:Wd zs)(hp:0<zs.length)(ht:gd zs (zs.length-1)≠0)(n:Nat)(hn:zs.length≤n):
 nv (padded zs (64-blen (gd zs (zs.length-1))) n)=nv zs*2^(64*n-blen (nv zs)):=by
 have hb:=blen_nv hwd hp ht
 obtain⟨t0,t1⟩:=gd_bounds hwd (zs.length-1)
 have hb64:=blen_le64 t1
 obtain⟨s1,s2,s3⟩:=blen_spec (show 0<gd zs (zs.length-1)by omega)
 unfold padded
 rw[nv_append,nv_replicate,nv_hw _ (by omega) hp (by
  rw[show 64-(64-blen (gd zs (zs.length-1)))=blen (gd zs (zs.length-1))by omega]
  exact Int.ediv_eq_zero_of_lt t0 s2),hb,List.length_replicate,pw_two]
 generalize blen (gd zs (zs.length-1))=bl at*
 rw[show 64*n-(64*(zs.length-1)+bl)=64*(n-zs.length)+(64-bl)by omega,Int.pow_add]
 grind
def hd(zs:List Int)(i:Nat):Int:=headw zs (64-blen (gd zs (zs.length-1))) i
theorem head_hd(w:World)(b off cap:Nat)(zs:List Int)(n:Int)(h:Ns w b off cap zs n)(hn:n<big)(i:Nat)(hi:i≤1000):
 Calls Tryz.prog 215 #[.slice (some ⟨b,off,none⟩) zs.length cap,.int .i64 i] w (DrewPost w (.int .u64 (hd zs i))):=head_any w b off cap zs n h hn i hi
theorem cmpHeads_any(w:World)(b off cap:Nat)(za:List Int)(x:Int)(b2 off2 cap2:Nat)(zb:List Int)(y:Int)(ha:Ns w b off cap za x)(hb:Ns w b2 off2 cap2 zb y)(hx:x<big)(hy:y<big):
 Calls Tryz.prog 151 #[.slice (some ⟨b,off,none⟩) za.length cap,.slice (some ⟨b2,off2,none⟩) zb.length cap2] w
  (DrewPost w (.int .i64 (cmpI (x*2^(64*max za.length zb.length-blen x)) (y*2^(64*max za.length zb.length-blen y))))):=by
 have hla:=ha.len hx
 have hlb:=hb.len hy
 have HX:=Lib.hid hx
 have HY:=Lib.hid hy
 have HA:=Lib.hid ha
 have HB:=Lib.hid hb
 obtain⟨n,hn⟩: ∃n,max za.length zb.length=n:=⟨_,rfl⟩
 have HF: ∀i,i<n→(∀j,j<i→hd za j=hd zb j)→hd za i≠hd zb i→cmpI (hd za i) (hd zb i)=cmpI (x*2^(64*n-blen x)) (y*2^(64*n-blen y)):=by
  intro i hi hj hne
  have pa:=padded_nv ha.wd ha.pos ha.top n (by omega)
  have pb:=padded_nv hb.wd hb.pos hb.top n (by omega)
  rw[ha.val]at pa
  rw[hb.val]at pb
  rw[←pa,←pb]
  have ua:64-blen (gd za (za.length-1))≤63:=by
   obtain⟨_,_,s⟩:=blen_spec (show 0<gd za (za.length-1)by have:=ha.top;have:=(gd_bounds ha.wd (za.length-1)).1;omega)
   omega
  have ub:64-blen (gd zb (zb.length-1))≤63:=by
   obtain⟨_,_,s⟩:=blen_spec (show 0<gd zb (zb.length-1)by have:=hb.top;have:=(gd_bounds hb.wd (zb.length-1)).1;omega)
   omega
  have la:=padded_len za (64-blen (gd za (za.length-1))) n (by omega)
  have lb:=padded_len zb (64-blen (gd zb (zb.length-1))) n (by omega)
  have ga:=padded_gd za (64-blen (gd za (za.length-1))) n
  have gb:=padded_gd zb (64-blen (gd zb (zb.length-1))) n
  have wa:=padded_wd ha.wd (64-blen (gd za (za.length-1))) n ua
  have wb:=padded_wd hb.wd (64-blen (gd zb (zb.length-1))) n ub
  have hjj: ∀j,n-1-i<j→gd (padded za (64-blen (gd za (za.length-1))) n) j=gd (padded zb (64-blen (gd zb (zb.length-1))) n) j:=by
   intro j h
   by_cases hjn:j<n
   ·rw[ga j (by omega) hjn,gb j (by omega) hjn];exact hj _ (by omega)
   ·rw[gd_over (by omega),gd_over (by omega)]
  have e:n-1-(n-1-i)=i:=by omega
  rcases Int.lt_trichotomy (hd za i) (hd zb i)with h|h|h
  ·rw[cmpI_lt h,cmpI_lt (nv_lt_of wa wb (by rw[la,lb]) (n-1-i) (by omega) hjj (by rw[ga _ (by omega) (by omega),gb _ (by omega) (by omega),e];exact h))]
  ·exact absurd h hne
  ·rw[cmpI_gt h,cmpI_gt (nv_lt_of wb wa (by rw[la,lb]) (n-1-i) (by omega) (fun j h=>(hjj j h).symm) (by rw[ga _ (by omega) (by omega),gb _ (by omega) (by omega),e];exact h))]
 have HE:(∀j,j<n→hd za j=hd zb j)→cmpI (x*2^(64*n-blen x)) (y*2^(64*n-blen y))=0:=by
  intro hj
  have pa:=padded_nv ha.wd ha.pos ha.top n (by omega)
  have pb:=padded_nv hb.wd hb.pos hb.top n (by omega)
  rw[ha.val]at pa
  rw[hb.val]at pb
  rw[←pa,←pb]
  have la:=padded_len za (64-blen (gd za (za.length-1))) n (by omega)
  have lb:=padded_len zb (64-blen (gd zb (zb.length-1))) n (by omega)
  have:padded za (64-blen (gd za (za.length-1))) n=padded zb (64-blen (gd zb (zb.length-1))) n:=by
   refine List.ext_getElem (by omega) ?_
   intro j h1 h2
   rw[←gd_get h1,←gd_get h2,padded_gd _ _ _ _ (by omega) (by omega),padded_gd _ _ _ _ (by omega) (by omega)]
   exact hj _ (by omega)
  rw[this,cmpI_eq]
 have HFF:=Lib.hid HF
 have HEE:=Lib.hid HE
 have ha2:=fun(wx:World) (hd:Drw w wx) (i:Nat) (hi:i≤1000)=>head_hd wx b off cap za x (HA.out.below (hd.below _)) HX.out i hi
 have hb2:=fun(wx:World) (hd:Drw w wx) (i:Nat) (hi:i≤1000)=>head_hd wx b2 off2 cap2 zb y (HB.out.below (hd.below _)) HY.out i hi
 have HA2:=Lib.hid ha2
 have HB2:=Lib.hid hb2
 clear HF HE ha2 hb2
 rw[hn]
 obtain⟨la,hla'⟩: ∃l,za.length=l:=⟨_,rfl⟩
 obtain⟨lb,hlb'⟩: ∃l,zb.length=l:=⟨_,rfl⟩
 have HLA:=Lib.hid hla'
 have HLB:=Lib.hid hlb'
 rw[hla']at hla HA2 hn⊢
 rw[hlb']at hlb HB2 hn⊢
 have hn2:max (la:Int) (lb:Int)=(n:Int):=by omega
 have hn3:n≤1000:=by omega
 generalize hR:cmpI (x*2^(64*n-blen x)) (y*2^(64*n-blen y))=R at HFF HEE⊢
 clear hla' hlb' hn hR ha hb hx hy
 go_enter Tryz.func151,Tryz.ntmps151
 go_wp2_with fail
 go_loopw [13] (fun u wr=> ∃i:Nat,i≤n∧u=.int .i64 i∧Drw w wr∧Hid (∀j,j<i→hd za j=hd zb j)) (fun u _=>n-(intOf u).toNat)
 case atStart=>exact⟨0,Nat.zero_le _,rfl,Drw.refl _,Lib.hid fun j hj=>by omega⟩
 case round=>
  obtain⟨i,hi,rfl,hdr,hz⟩:=hrel
  have HD:=Lib.hid hdr
  clear hdr
  by_cases hlt:i<n
  ·by_cases h0:hd za i=hd zb i
   ·have hq:(hd za i !=hd zb i)=false:=by simpa using h0
    have HZ:Hid (∀j,j<i+1→hd za j=hd zb j):=Lib.hid fun j hj=>by
     by_cases e:j=i
     ·subst e;exact h0
     ·exact hz.out j (by omega)
    clear h0 hz
    have hA:=HA2.out wr HD.out i (by omega)
    go_wp2_with fail
    refine hA.mono ?_
    rintro en w1 ⟨rfl,hd1⟩
    have HD1:=Lib.hid (HD.out.trans hd1)
    clear hA hd1
    have hB:=HB2.out w1 HD1.out i (by omega)
    go_wp2_with fail
    refine hB.mono ?_
    rintro en w2 ⟨rfl,hd2⟩
    have HD2:=Lib.hid (HD1.out.trans hd2)
    clear hB hd2
    go_wp2_with fail
    go_roundw
    case rel=>exact⟨i+1,by omega,by go_num,HD2.out,HZ⟩
    case measure=>simp[intOf]<;>omega
   ·have hq:(hd za i !=hd zb i)=true:=by simpa using h0
    have HR:=Lib.hid (HFF.out i hlt hz.out h0)
    clear h0
    have hA:=HA2.out wr HD.out i (by omega)
    go_wp2_with fail
    refine hA.mono ?_
    rintro en w1 ⟨rfl,hd1⟩
    have HD1:=Lib.hid (HD.out.trans hd1)
    clear hA hd1
    have hB:=HB2.out w1 HD1.out i (by omega)
    go_wp2_with fail
    refine hB.mono ?_
    rintro en w2 ⟨rfl,hd2⟩
    have HD2:=Lib.hid (HD1.out.trans hd2)
    clear hB hd2
    go_wp2_with (go_at_call 216;refine(cmp64_any _ _ _).mono ?_;rintro en w' ⟨rfl,rfl⟩)
    go_ret
    exact⟨congrArg (fun x=>Ending.returned (Value.int .i64 x)) HR.out,HD2.out⟩
  ·have hie:i=n:=by omega
   subst hie
   have HR:=Lib.hid (HEE.out hz.out)
   go_wp2_with fail
   go_ret
   exact⟨congrArg (fun x=>Ending.returned (Value.int .i64 x)) HR.out.symm,HD.out⟩
end Go.Proofs.YtedhbbjlbgpafaaGreatDoor
namespace Go.Proofs.YtedhbbjlbgpafaaGreatDoor
open Go.RowKit Go.Shelf
attribute [local go_sem] eqNil neqNil
theorem lt_iff_mul{a b c:Int}(hc:0<c):a*c<b*c↔a<b:=by
 constructor
 ·intro h
  apply Classical.byContradiction
  intro hn
  have:=Int.mul_le_mul_of_nonneg_right (show b≤a by omega) (Int.le_of_lt hc)
  omega
 ·intro h;exact Int.mul_lt_mul_of_pos_right h hc
theorem cmpI_mul{a b c:Int}(hc:0<c):cmpI (a*c) (b*c)=cmpI a b:=by
 unfold cmpI
 simp only[lt_iff_mul hc]
theorem cmpI_shift{x y:Int}{p q p' q':Nat}(h:p+q'=p'+q):cmpI (x*2^p) (y*2^q)=cmpI (x*2^p') (y*2^q'):=by
 rw[←cmpI_mul (p2pos q'),←cmpI_mul (c:=2^q) (p2pos q) (a:=x*2^p'),Int.mul_assoc,Int.mul_assoc,Int.mul_assoc,Int.mul_assoc,←Int.pow_add,←Int.pow_add,←Int.pow_add,←Int.pow_add,h,Nat.add_comm q q']
theorem cmp_logs{x y:Int}{p q:Nat}(hx:0<x)(hy:0<y)(h:blen x+p<blen y+q):x*2^p<y*2^q:=by
 obtain⟨_,a2,a3⟩:=blen_spec hx
 obtain⟨b1,_,b3⟩:=blen_spec hy
 have h1:x*2^p<2^(blen x+p):=by rw[Int.pow_add];exact Int.mul_lt_mul_of_pos_right a2 (p2pos p)
 have h2:(2:Int)^(blen y-1+q)≤y*2^q:=by rw[Int.pow_add];exact Int.mul_le_mul_of_nonneg_right b1 (Int.le_of_lt (p2pos q))
 obtain⟨d,hd⟩: ∃d,blen y-1+q=blen x+p+d:=⟨blen y-1+q-(blen x+p),by omega⟩
 rw[hd,Int.pow_add]at h2
 have h3:=Int.mul_le_mul_of_nonneg_left (show(1:Int)≤2^d from p2pos d) (Int.le_of_lt (p2pos (blen x+p)))
 omega
theorem boxes2(w:World)(A B:Array Value)(T:TypeId):Box ((w.alloc (.cells A T)).alloc (.cells B T)) w.heap.size A∧Box ((w.alloc (.cells A T)).alloc (.cells B T)) (w.heap.size+1) B∧
 Below w.heap.size w ((w.alloc (.cells A T)).alloc (.cells B T)):=by
 refine⟨(Box.new w A T).alloc _,?_,((Below.refl _ _).alloc (Nat.le_refl _) _).alloc (by simp) _⟩
 have:=Box.new (w.alloc (.cells A T)) B T
 rwa [World.size_alloc]at this
def HeadsPost(w:World)(x y:Int)(en:Ending)(w':World):Prop:= ∃(n:Nat) (r:Int),blen x≤64*n∧blen y≤64*n∧r=cmpI (x*2^(64*n-blen x)) (y*2^(64*n-blen y))∧en=.returned (.int .i64 r)∧Drw w w'
theorem cmpHeads_nt(w:World)(va vb:Value)(x y:Int)(hx:Nt w va x)(hy:Nt w vb y)(h0:0<x)(h1:0<y)(hbx:x<big)(hby:y<big):
 Calls Tryz.prog 151 #[va,vb] w (HeadsPost w x y):=by
 obtain⟨b,off,cap,za,rfl,hA⟩:=hx.pos (by omega)
 obtain⟨b2,off2,cap2,zb,rfl,hB⟩:=hy.pos (by omega)
 refine(cmpHeads_any w b off cap za x b2 off2 cap2 zb y hA hB hbx hby).mono ?_
 rintro en w' ⟨rfl,hd⟩
 have ea:=blen_nv hA.wd hA.pos hA.top
 have eb:=blen_nv hB.wd hB.pos hB.top
 have la:=blen_le64 (gd_bounds hA.wd (za.length-1)).2
 have lb:=blen_le64 (gd_bounds hB.wd (zb.length-1)).2
 have pa:=hA.pos
 have pb:=hB.pos
 rw[hA.val]at ea
 rw[hB.val]at eb
 exact⟨max za.length zb.length,_,by omega,by omega,rfl,rfl,hd⟩
theorem cmpSizesRaw(w:World)(sx sy:Bool)(a:Addr)(la ca:Nat)(b:Addr)(lb cb:Nat)(tx ty ex ey:Int)(hx:Nt w (.slice (some a) la ca) tx)(hy:Nt w (.slice (some b) lb cb) ty)(h0:0<tx)(h1:0<ty)(hbx:tx<big)(hby:ty<big)
 (e0: -1000000≤ex∧ex≤1000000) (e1: -1000000≤ey∧ey≤1000000) (R:Int) (hR1:(blen tx:Int)+ex<blen ty+ey→R= -1) (hR2:(blen ty:Int)+ey<blen tx+ex→R=1)
 (hR3:(blen tx:Int)+ex=blen ty+ey→ ∀n:Nat,blen tx≤64*n→blen ty≤64*n→R=cmpI (tx*2^(64*n-blen tx)) (ty*2^(64*n-blen ty))):
 Calls Tryz.prog 75 #[.agg #[.bool sx,.slice (some a) la ca,.slice none 0 0,.int .i64 ex],.agg #[.bool sy,.slice (some b) lb cb,.slice none 0 0,.int .i64 ey]] w (IntPost w R):=by
 have nx:Nm w (.agg #[.bool sx,.slice (some a) la ca,.slice none 0 0,.int .i64 ex]) sx tx 1 ex:=⟨_,_,_,_,_,_,rfl,hx,.inl ⟨rfl,rfl⟩⟩
 have ny:Nm w (.agg #[.bool sy,.slice (some b) lb cb,.slice none 0 0,.int .i64 ey]) sy ty 1 ey:=⟨_,_,_,_,_,_,rfl,hy,.inl ⟨rfl,rfl⟩⟩
 obtain⟨bx,hbxe⟩: ∃q,blen tx=q:=⟨_,rfl⟩
 obtain⟨by',hbye⟩: ∃q,blen ty=q:=⟨_,rfl⟩
 have hbx0:=blen_big hbx
 have hby0:=blen_big hby
 have HX:=Lib.hid (And.intro nx (And.intro hx (And.intro h0 (And.intro hbx (And.intro e0 hbxe)))))
 have HY:=Lib.hid (And.intro ny (And.intro hy (And.intro h1 (And.intro hby (And.intro e1 hbye)))))
 have HR3:=Lib.hid hR3
 obtain⟨e00,e01⟩:=e0
 obtain⟨e10,e11⟩:=e1
 rw[hbxe,hbye]at hR1 hR2
 rw[hbxe]at hbx0
 rw[hbye]at hby0
 have HR1:=Lib.hid hR1
 have HR2:=Lib.hid hR2
 clear nx ny hx hy h0 h1 hbx hby hR1 hR2 hR3 hbxe hbye
 go_enter Tryz.func75,Tryz.ntmps75
 go_wp2_with fail
 obtain⟨hA,hB,hW0⟩:=boxes2 w #[.bool sx,.slice (some a) la ca,.slice none 0 0,.int .i64 ex] #[.bool sy,.slice (some b) lb cb,.slice none 0 0,.int .i64 ey] 51
 generalize hW:(w.alloc (.cells #[.bool sx,.slice (some a) la ca,.slice none 0 0,.int .i64 ex] 51)).alloc (.cells #[.bool sy,.slice (some b) lb cb,.slice none 0 0,.int .i64 ey] 51)=W at hA hB hW0⊢
 clear hW
 generalize hg:w.heap.size=g at hA hB
 have HG:=Lib.hid hg
 clear hg
 have HW:=Lib.hid hW0
 have HA:=Lib.hid hA
 have HB:=Lib.hid hB
 clear hW0
 have cA:=hA.cell
 have cB:=hB.cell
 clear hA hB
 have hlog: ∀W1:World,Hid (Below w.heap.size w W1∧Box W1 g #[.bool sx,.slice (some a) la ca,.slice none 0 0,.int .i64 ex]∧Box W1 (g+1) #[.bool sy,.slice (some b) lb cb,.slice none 0 0,.int .i64 ey])→
  (Calls Tryz.prog 148 #[.agg #[.bool sx,.slice (some a) la ca,.slice none 0 0,.int .i64 ex]] W1 fun en w'=>en=.returned (.int .i64 ((bx:Int)-1+ex))∧Hid (Below w.heap.size w w'∧Box w' g #[.bool sx,.slice (some a) la ca,.slice none 0 0,.int .i64 ex]∧Box w' (g+1) #[.bool sy,.slice (some b) lb cb,.slice none 0 0,.int .i64 ey])∧(∀q,w'.cell? ⟨g,q,none⟩=(#[.bool sx,.slice (some a) la ca,.slice none 0 0,.int .i64 ex]:Array Value)[q]?)∧(∀q,w'.cell? ⟨g+1,q,none⟩=(#[.bool sy,.slice (some b) lb cb,.slice none 0 0,.int .i64 ey]:Array Value)[q]?))∧
  (Calls Tryz.prog 148 #[.agg #[.bool sy,.slice (some b) lb cb,.slice none 0 0,.int .i64 ey]] W1 fun en w'=>en=.returned (.int .i64 ((by':Int)-1+ey))∧Hid (Below w.heap.size w w'∧Box w' g #[.bool sx,.slice (some a) la ca,.slice none 0 0,.int .i64 ex]∧Box w' (g+1) #[.bool sy,.slice (some b) lb cb,.slice none 0 0,.int .i64 ey])∧(∀q,w'.cell? ⟨g,q,none⟩=(#[.bool sx,.slice (some a) la ca,.slice none 0 0,.int .i64 ex]:Array Value)[q]?)∧(∀q,w'.cell? ⟨g+1,q,none⟩=(#[.bool sy,.slice (some b) lb cb,.slice none 0 0,.int .i64 ey]:Array Value)[q]?)):=by
  intro W1 H
  obtain⟨h1,h2,h3⟩:=H.out
  obtain⟨x1,x2,x3,x4,x5,x6⟩:=HX.out
  obtain⟨y1,y2,y3,y4,y5,y6⟩:=HY.out
  constructor
  ·refine(log_nil W1 _ sx tx ex (x1.below h1) x4 x3 x5.1 x5.2).mono ?_
   rintro en w' ⟨rfl,hb⟩
   exact⟨by rw[x6],Lib.hid ⟨h1.trans (hb.mono h1.size),h2.below hb,h3.below hb⟩,(h2.below hb).cell,(h3.below hb).cell⟩
  ·refine(log_nil W1 _ sy ty ey (y1.below h1) y4 y3 y5.1 y5.2).mono ?_
   rintro en w' ⟨rfl,hb⟩
   exact⟨by rw[y6],Lib.hid ⟨h1.trans (hb.mono h1.size),h2.below hb,h3.below hb⟩,(h2.below hb).cell,(h3.below hb).cell⟩
 have HLOG:=Lib.hid hlog
 have HSA:Hid (∀W':World,Below w.heap.size w W'→Calls Tryz.prog 150 #[.slice (some a) la ca] W' fun en w'=>en=.returned (.int .i64 (bx:Int))∧w'=W'):=Lib.hid (fun W' hb=>by
  refine(size_any W' _ tx (HX.out.2.1.below hb) HX.out.2.2.2.1).mono ?_
  rintro en w' ⟨rfl,rfl⟩
  exact⟨by rw[HX.out.2.2.2.2.2],rfl⟩)
 have HSB:Hid (∀W':World,Below w.heap.size w W'→Calls Tryz.prog 150 #[.slice (some b) lb cb] W' fun en w'=>en=.returned (.int .i64 (by':Int))∧w'=W'):=Lib.hid (fun W' hb=>by
  refine(size_any W' _ ty (HY.out.2.1.below hb) HY.out.2.2.2.1).mono ?_
  rintro en w' ⟨rfl,rfl⟩
  exact⟨by rw[HY.out.2.2.2.2.2],rfl⟩)
 have HH0:Hid (Below w.heap.size w W.drew∧Box W.drew g #[.bool sx,.slice (some a) la ca,.slice none 0 0,.int .i64 ex]∧Box W.drew (g+1) #[.bool sy,.slice (some b) lb cb,.slice none 0 0,.int .i64 ey]):=Lib.hid ⟨HW.out.trans ((Drw.step W 1).below _),HA.out.below ((Drw.step W 1).below _),HB.out.below ((Drw.step W 1).below _)⟩
 clear hlog
 go_region_with (first
  |(go_at_call 148;first|((with_reducible refine(HLOG.out _ HH0).1.mono ?_);rintro en w1 ⟨rfl,HH1,cA1,cB1⟩)|((with_reducible refine(HLOG.out _ HH1).1.mono ?_);rintro en w2 ⟨rfl,HH2,cA2,cB2⟩)|((with_reducible refine(HLOG.out _ HH0).2.mono ?_);rintro en w1 ⟨rfl,HH1,cA1,cB1⟩)|((with_reducible refine(HLOG.out _ HH1).2.mono ?_);rintro en w2 ⟨rfl,HH2,cA2,cB2⟩))
  |(go_at_call 74;refine(cmpInt_any _ _ _).mono ?_;rintro en w' ⟨rfl,rfl⟩))
 all_goals
  clear cA1 cB1 cA cB HH0 HH1 HLOG
  rcases Int.lt_trichotomy ((bx:Int)-1+ex) ((by':Int)-1+ey)with h|h|h
  ·have hc:=cmpI_lt h
   have HRR:=Lib.hid (HR1.out (by omega))
   clear h cA2 cB2
   go_wp2_with fail
   go_ret
   exact⟨congrArg (fun x=>Ending.returned (Value.int .i64 x)) HRR.out.symm,HH2.out.1⟩
  ·have hc:cmpI ((bx:Int)-1+ex) ((by':Int)-1+ey)=0:=by rw[h,cmpI_eq]
   have hc2:cmpI ((bx:Int)+ex) ((by':Int)+ey)=0:=by rw[show(bx:Int)+ex=by'+ey by omega,cmpI_eq]
   have x1:IntKind.i64.wrap ((bx:Int)+ex)=bx+ex:=IntWalk.i64_in _ (by omega)
   have x2:IntKind.i64.wrap ((by':Int)+ey)=by'+ey:=IntWalk.i64_in _ (by omega)
   have HQ:Hid ((bx:Int)+ex=by'+ey):=Lib.hid (by omega)
   clear h
   have cA:=HH2.out.2.1.cell
   have cB:=HH2.out.2.2.cell
   clear cA2 cB2
   go_wp2_with fail
   go_quiet ((go_at_call 149;exact Calls.quiet_of_same ((times_left _ _ _ _).mono fun _ _ h=>⟨h.1,h.2.symm⟩)))
   go_wp2_with fail
   generalize hd:w2.drewN nq=w3
   have hD:Drw w2 w3:=hd▸Drw.step w2 _
   have HA3:=Lib.hid (HH2.out.2.1.below (hD.below _))
   have HB3:=Lib.hid (HH2.out.2.2.below (hD.below _))
   have HW3:=Lib.hid (HH2.out.1.trans (hD.below _))
   clear hd hD cA cB
   have cA:=HA3.out.cell
   have cB:=HB3.out.cell
   go_quiet ((first|(go_at_call 150;first|(with_reducible refine Calls.quiet_of_same (HSA.out _ ?_);exact HW3.out.trans ((Drw.step _ _).below _))|(with_reducible refine Calls.quiet_of_same (HSB.out _ ?_);exact HW3.out.trans ((Drw.step _ _).below _)))|(go_at_call 74;exact Calls.quiet_of_same ((cmpInt_any _ _ _).mono fun _ _ h=>⟨h.1,h.2.symm⟩))))
   go_wp2_with fail
   have HW4:Hid (Below w.heap.size w (w3.drewN nq)):=Lib.hid (HW3.out.trans ((Drw.step w3 nq).below _))
   refine(cmpHeads_nt _ _ _ tx ty (HX.out.2.1.below HW4.out) (HY.out.2.1.below HW4.out) HX.out.2.2.1 HY.out.2.2.1 HX.out.2.2.2.1 HY.out.2.2.2.1).mono ?_
   rintro en w5 ⟨n,r,hn1,hn2,hr,rfl,hd⟩
   have HRR:Hid (R=r):=Lib.hid (by rw[hr];exact HR3.out (by rw[HX.out.2.2.2.2.2,HY.out.2.2.2.2.2];exact HQ.out) n hn1 hn2)
   have HD:=Lib.hid (HW4.out.trans (hd.below _))
   clear hr hd hn1 hn2
   go_wp2_with fail
   go_ret
   exact⟨congrArg (fun x=>Ending.returned (Value.int .i64 x)) HRR.out.symm,HD.out⟩
  ·have hc:=cmpI_gt h
   have HRR:=Lib.hid (HR2.out (by omega))
   clear h cA2 cB2
   go_wp2_with fail
   go_ret
   exact⟨congrArg (fun x=>Ending.returned (Value.int .i64 x)) HRR.out.symm,HH2.out.1⟩
end Go.Proofs.YtedhbbjlbgpafaaGreatDoor
namespace Go.Proofs.YtedhbbjlbgpafaaGreatDoor
open Go.RowKit Go.Shelf
attribute [local go_sem] eqNil neqNil
def Two(w W:World)(g:Nat)(A B:Array Value):Prop:=Below w.heap.size w W∧Box W g A∧Box W (g+1) B
theorem Two.next{w W W':World}{g:Nat}{A B:Array Value}(h:Two w W g A B)(hb:Below W.heap.size W W'):Two w W' g A B:=⟨h.1.trans (hb.mono h.1.size),h.2.1.below hb,h.2.2.below hb⟩
theorem cmpRaw(w:World)(sx sy:Bool)(bo:Option Addr)(la ca:Nat)(bo2:Option Addr)(lb cb:Nat)(ex ey:Int)(S1 S2 R Q:Int)
 (h1: ∀W,Below w.heap.size w W→Calls Tryz.prog 29 #[.agg #[.bool sx,.slice bo la ca,.slice none 0 0,.int .i64 ex]] W (SignPost W S1))
 (h2: ∀W,Below w.heap.size w W→Calls Tryz.prog 29 #[.agg #[.bool sy,.slice bo2 lb cb,.slice none 0 0,.int .i64 ey]] W (SignPost W S2))
 (h3:S1=S2→S1≠0→ ∀W,Below w.heap.size w W→Calls Tryz.prog 75 #[.agg #[.bool sx,.slice bo la ca,.slice none 0 0,.int .i64 ex],.agg #[.bool sy,.slice bo2 lb cb,.slice none 0 0,.int .i64 ey]] W (IntPost W Q))
 (hQ: -1≤Q∧Q≤1) (hS: -1≤S1∧S1≤1) (hS2: -1≤S2∧S2≤1) (r1:S1≠S2→R=cmpI S1 S2) (r2:S1=S2→S1=0→R=0) (r3:S1=S2→S1≠0→R=S1*Q):
 Calls Tryz.prog 26 #[.agg #[.bool sx,.slice bo la ca,.slice none 0 0,.int .i64 ex],.agg #[.bool sy,.slice bo2 lb cb,.slice none 0 0,.int .i64 ey]] w (IntPost w R):=by
 have H1:=Lib.hid h1
 have H2:=Lib.hid h2
 clear h1 h2
 obtain⟨q1,q2⟩:=hQ
 obtain⟨s1,s2⟩:=hS
 obtain⟨t1,t2⟩:=hS2
 by_cases he:S1=S2
 ·subst he
  have hne:(S1 !=S1)=false:=by simp
  clear r1
  by_cases h0:S1=0
  ·have HR:=Lib.hid (r2 rfl h0)
   subst h0
   clear r2 r3 h3
   go_enter Tryz.func26,Tryz.ntmps26
   go_wp2_with fail
   obtain⟨hA,hB,hW0⟩:=boxes2 w #[.bool sx,.slice bo la ca,.slice none 0 0,.int .i64 ex] #[.bool sy,.slice bo2 lb cb,.slice none 0 0,.int .i64 ey] 51
   have HT:Hid (Two w _ w.heap.size _ _):=Lib.hid ⟨hW0,hA,hB⟩
   clear hA hB hW0
   refine(H1.out _ HT.out.1).mono ?_
   rintro en w1 ⟨rfl,hb⟩
   have HT1:=Lib.hid (HT.out.next hb)
   clear hb
   have cA:=HT1.out.2.1.cell
   have cB:=HT1.out.2.2.cell
   go_wp2_with fail
   refine(H2.out _ HT1.out.1).mono ?_
   rintro en w2 ⟨rfl,hb⟩
   have HT2:=Lib.hid (HT1.out.next hb)
   clear hb cA cB
   go_wp2_with fail
   go_ret
   exact⟨by rw[HR.out];rfl,HT2.out.1⟩
  ·have HR:=Lib.hid (r3 rfl h0)
   have H3:=Lib.hid (h3 rfl h0)
   have hb0:(S1==0)=false:=by simpa using h0
   have x1:IntKind.i64.wrap (S1*Q)=S1*Q:=IntWalk.i64_in _ (by
    rcases(show S1= -1∨S1=1 by omega)with rfl|rfl<;>omega)
   clear r2 r3 h3 h0
   go_enter Tryz.func26,Tryz.ntmps26
   go_wp2_with fail
   obtain⟨hA,hB,hW0⟩:=boxes2 w #[.bool sx,.slice bo la ca,.slice none 0 0,.int .i64 ex] #[.bool sy,.slice bo2 lb cb,.slice none 0 0,.int .i64 ey] 51
   have HT:Hid (Two w _ w.heap.size _ _):=Lib.hid ⟨hW0,hA,hB⟩
   clear hA hB hW0
   refine(H1.out _ HT.out.1).mono ?_
   rintro en w1 ⟨rfl,hb⟩
   have HT1:=Lib.hid (HT.out.next hb)
   clear hb
   have cA:=HT1.out.2.1.cell
   have cB:=HT1.out.2.2.cell
   go_wp2_with fail
   refine(H2.out _ HT1.out.1).mono ?_
   rintro en w2 ⟨rfl,hb⟩
   have HT2:=Lib.hid (HT1.out.next hb)
   clear hb cA cB
   have cA:=HT2.out.2.1.cell
   have cB:=HT2.out.2.2.cell
   go_wp2_with fail
   refine(H3.out _ HT2.out.1).mono ?_
   rintro en w3 ⟨rfl,hb⟩
   have HT3:=Lib.hid (HT2.out.next hb)
   clear hb cA cB
   go_wp2_with fail
   go_ret
   exact⟨by rw[HR.out];rfl,HT3.out.1⟩
 ·have hne:(S1 !=S2)=true:=by simpa using he
  have HR:=Lib.hid (r1 he)
  clear r1 r2 r3 h3 he
  go_enter Tryz.func26,Tryz.ntmps26
  go_wp2_with fail
  obtain⟨hA,hB,hW0⟩:=boxes2 w #[.bool sx,.slice bo la ca,.slice none 0 0,.int .i64 ex] #[.bool sy,.slice bo2 lb cb,.slice none 0 0,.int .i64 ey] 51
  have HT:Hid (Two w _ w.heap.size _ _):=Lib.hid ⟨hW0,hA,hB⟩
  clear hA hB hW0
  refine(H1.out _ HT.out.1).mono ?_
  rintro en w1 ⟨rfl,hb⟩
  have HT1:=Lib.hid (HT.out.next hb)
  clear hb
  have cA:=HT1.out.2.1.cell
  have cB:=HT1.out.2.2.cell
  go_wp2_with fail
  refine(H2.out _ HT1.out.1).mono ?_
  rintro en w2 ⟨rfl,hb⟩
  have HT2:=Lib.hid (HT1.out.next hb)
  clear hb cA cB
  have cA:=HT2.out.2.1.cell
  have cB:=HT2.out.2.2.cell
  go_wp2_with fail
  refine(H2.out _ HT2.out.1).mono ?_
  rintro en w3 ⟨rfl,hb⟩
  have HT3:=Lib.hid (HT2.out.next hb)
  clear hb cA cB
  go_wp2_with (go_at_call 74;refine(cmpInt_any _ _ _).mono ?_;rintro en w' ⟨rfl,rfl⟩)
  go_ret
  exact⟨by rw[HR.out];rfl,HT3.out.1⟩
theorem cmpI_neg(a b:Int):cmpI (-a) (-b)= -1*cmpI a b:=by
 unfold cmpI
 rcases Int.lt_trichotomy a b with h|h|h
 ·rw[if_neg (by omega),if_pos (by omega),if_pos h];rfl
 ·subst h;rw[if_neg (by omega),if_neg (by omega),if_neg (by omega),if_neg (by omega)];rfl
 ·rw[if_pos (by omega),if_neg (by omega),if_pos h];rfl
theorem cmpI_range(a b:Int): -1≤cmpI a b∧cmpI a b≤1:=by unfold cmpI;split<;>(try split)<;>omega
theorem sgnI_range(s:Bool)(t:Int): -1≤sgnI s t∧sgnI s t≤1:=by unfold sgnI;split<;>(try split)<;>omega
theorem cmp_any(w:World)(vx vy:Value)(K L k:Int)(hx:Dn w vx K k)(hy:Dn w vy L k)(hK: -sml<K∧K<sml)(hL: -sml<L∧L<sml)(hk: -50000≤k∧k≤50000):
 Calls Tryz.prog 26 #[vx,vy] w (IntPost w (cmpI K L)):=by
 obtain⟨sx,tx,ex,nx,dx⟩:=hx
 obtain⟨sy,ty,ey,ny,dy⟩:=hy
 have nx0:=nx
 have ny0:=ny
 obtain⟨bo,la,ca,rfl,tx1⟩:=nx.nilb
 obtain⟨bo2,lb,cb,rfl,ty1⟩:=ny.nilb
 have h2:=sml_big
 have mx: ∀(s:Bool) (t:Int) (j:Nat),sg s t*2^j=sg s (t*2^j):=by
  intro s t j;cases s
  ·rfl
  ·exact Int.neg_mul _ _
 have sK: ∀{s:Bool} {t e K:Int},Dr s t e K k→(K<0∧sgnI s t= -1)∨(K=0∧sgnI s t=0)∨(0<K∧sgnI s t=1):=by
  intro s t e K h
  rcases h with⟨rfl,rfl,rfl,rfl⟩|⟨_,hp,j,_,rfl⟩
  ·exact .inr (.inl ⟨rfl,rfl⟩)
  ·have:=Int.mul_pos hp (p2pos j)
   rw[mx]
   generalize t*2^j=x at this
   cases s
   ·refine .inr (.inr ⟨this,?_⟩);unfold sgnI;rw[if_neg (by omega)];rfl
   ·refine .inl ⟨by simp[sg];omega,?_⟩;unfold sgnI;rw[if_neg (by omega)];rfl
 have a1:=sK dx
 have a2:=sK dy
 have e3: ∀{s:Bool} {t:Int},0<t→(sgnI s t=if s then-1 else 1):=by intro s t h;unfold sgnI;rw[if_neg (by omega)]
 rcases dx with⟨rfl,rfl,rfl,rfl⟩|⟨ox,px,jx,rfl,rfl⟩
 ·refine cmpRaw w _ _ _ _ _ _ _ _ _ _ (sgnI false 0) (sgnI sy ty) _ 0 (fun W hb=>sign_any W _ _ _ _ _ (nx0.below hb)) (fun W hb=>sign_any W _ _ _ _ _ (ny0.below hb)) (fun _ h=>absurd rfl h) (by omega) (sgnI_range _ _) (sgnI_range _ _) ?_ ?_ (fun _ h=>absurd rfl h)
  ·intro hne
   have:sgnI false 0=0:=rfl
   rw[this]at hne⊢
   rcases a2 with⟨b1,b2⟩|⟨b1,b2⟩|⟨b1,b2⟩
   ·rw[b2,cmpI_gt b1,cmpI_gt (by omega)]
   ·omega
   ·rw[b2,cmpI_lt b1,cmpI_lt (by omega)]
  ·intro he _
   have:sgnI false 0=0:=rfl
   rw[this]at he
   rcases a2 with⟨b1,b2⟩|⟨b1,b2⟩|⟨b1,b2⟩
   ·omega
   ·rw[b1,cmpI_eq]
   ·omega
 ·obtain⟨a,rfl⟩: ∃a,bo=some a:=by
   cases bo with
   |none=>have:=tx1.isNone;simp at this;omega
   |some a=>exact⟨a,rfl⟩
  rcases dy with⟨rfl,rfl,rfl,rfl⟩|⟨oy,py,jy,rfl,rfl⟩
  ·refine cmpRaw w _ _ _ _ _ _ _ _ _ _ (sgnI sx tx) (sgnI false 0) _ 0 (fun W hb=>sign_any W _ _ _ _ _ (nx0.below hb)) (fun W hb=>sign_any W _ _ _ _ _ (ny0.below hb)) (fun h h'=>absurd (h.trans rfl) h') (by omega) (sgnI_range _ _) (sgnI_range _ _) ?_ (fun h h'=>by
    rcases a1 with⟨b1,b2⟩|⟨b1,b2⟩|⟨b1,b2⟩
    ·omega
    ·rw[b1,cmpI_eq]
    ·omega) (fun h h'=>absurd (h.trans rfl) h')
   intro hne
   have:sgnI false 0=0:=rfl
   rw[this]at hne⊢
   rcases a1 with⟨b1,b2⟩|⟨b1,b2⟩|⟨b1,b2⟩
   ·rw[b2,cmpI_lt b1,cmpI_lt (by omega)]
   ·omega
   ·rw[b2,cmpI_gt b1,cmpI_gt (by omega)]
  ·obtain⟨a2',rfl⟩: ∃a,bo2=some a:=by
    cases bo2 with
    |none=>have:=ty1.isNone;simp at this;omega
    |some a=>exact⟨a,rfl⟩
   rw[mx]at hK hL a1 a2
   rw[mx,mx]
   have qx:=(abs_sg (Int.le_of_lt (Int.mul_pos px (p2pos jx)))).1 hK
   have qy:=(abs_sg (Int.le_of_lt (Int.mul_pos py (p2pos jy)))).1 hL
   have ix:=exp_lt px qx
   have iy:=exp_lt py qy
   have bx:tx<big:=lt_of_pow (j:=jx) px (by omega)
   have by':ty<big:=lt_of_pow (j:=jy) py (by omega)
   refine cmpRaw w _ _ _ _ _ _ _ _ _ _ (sgnI sx tx) (sgnI sy ty) _ (cmpI (tx*2^jx) (ty*2^jy)) (fun W hb=>sign_any W _ _ _ _ _ (nx0.below hb)) (fun W hb=>sign_any W _ _ _ _ _ (ny0.below hb)) ?_ (cmpI_range _ _) (sgnI_range _ _) (sgnI_range _ _) ?_ ?_ ?_
   ·intro _ _ W hb
    refine cmpSizesRaw W sx sy a la ca a2' lb cb tx ty (k+jx) (k+jy) (tx1.below hb) (ty1.below hb) px py bx by' (by omega) (by omega) _ ?_ ?_ ?_
    ·intro h;exact cmpI_lt (cmp_logs px py (by omega))
    ·intro h;exact cmpI_gt (cmp_logs py px (by omega))
    ·intro h n h1 h2;exact cmpI_shift (by omega)
   ·intro hne
    rcases a1 with⟨b1,b2⟩|⟨b1,b2⟩|⟨b1,b2⟩<;>rcases a2 with⟨c1,c2⟩|⟨c1,c2⟩|⟨c1,c2⟩<;>rw[b2,c2]at hne⊢
    all_goals first
     |exact absurd rfl hne
     |(rw[cmpI_lt (show(_:Int)<_ by omega),cmpI_lt (by omega)])
     |(rw[cmpI_gt (show(_:Int)<_ by omega),cmpI_gt (by omega)])
   ·intro h h0
    rw[e3 px]at h0
    cases sx<;>simp at h0
   ·intro h h0
    rw[e3 px,e3 py]at h
    rw[e3 px]
    cases sx<;>cases sy<;>simp at h
    ·show cmpI (tx*2^jx) (ty*2^jy)=1*_;rw[Int.one_mul]
    ·show cmpI (-(tx*2^jx)) (-(ty*2^jy))=_;rw[cmpI_neg];rfl
end Go.Proofs.YtedhbbjlbgpafaaGreatDoor
namespace Go.Proofs.YtedhbbjlbgpafaaGreatDoor
open Go.RowKit Go.Shelf
attribute [local go_sem] eqNil neqNil
theorem natAdd_zero(w:World)(vb:Value)(y:Int)(hb:Nt w vb y)(hy:y<big)(h1:0<y):
 Calls Tryz.prog 219 #[.slice none 0 0,vb] w (NewNt w (0+y)):=by
 obtain⟨b2,off2,cap2,zb,rfl,hB⟩:=hb.pos (by omega)
 have:=add_lt w b2 off2 cap2 zb none 0 0 y 0 hB (Nt.zero w) hy hB.pos (by have:=ppos zb.length;omega)
 rwa [Int.add_comm]at this
theorem increase2(w:World)(v:Value)(n:Int)(h:Nt w v n)(hs:n<big):
 Calls Tryz.prog 226 #[v] w (NewNt w (n+1)):=by
 by_cases h0:0<n
 ·exact increase_any w v n h hs h0
 ·obtain rfl:n=0:=by have:=h.nonneg;omega
  obtain rfl:=h.nil
  have HB:Hid (Below w.heap.size w (w.alloc (.cells #[.int .u64 1] 24))):=Lib.hid ((Below.refl _ _).alloc (Nat.le_refl _) _)
  have HO:=Lib.hid (natOne w)
  clear h hs h0
  go_enter Tryz.func226,Tryz.ntmps226
  go_wp2_with fail
  refine(natAdd_zero _ _ 1 HO.out (by decide+kernel) (by omega)).mono ?_
  rintro e w' ⟨v',rfl,h1,h2⟩
  have H1:=Lib.hid h1
  have H2:=Lib.hid h2
  clear h1 h2
  go_wp2_with fail
  go_ret
  exact⟨_,rfl,H1.out,HB.out.trans (H2.out.mono HB.out.size)⟩
theorem scaled_raw(w:World)(s:Bool)(bo:Option Addr)(la ca:Nat)(t e k q:Int)(h:Nt w (.slice bo la ca) t)(he: -1000000≤e∧e≤1000000)(hk: -1000000≤k∧k≤1000000)(hq:q=k+e)(ht:t*2^q.toNat<big):
 Calls Tryz.prog 225 #[.agg #[.bool s,.slice bo la ca,.slice none 0 0,.int .i64 e],.int .i64 k] w (NewNt w (t*2^q.toNat/2^(-q).toNat)):=by
 have hb:t<big:=by
  have:=h.nonneg
  have h2:=Int.mul_le_mul_of_nonneg_left (show(1:Int)≤2^q.toNat from p2pos _) this
  omega
 have H:=Lib.hid (And.intro h (And.intro hb ht))
 obtain⟨e0,e1⟩:=he
 obtain⟨k0,k1⟩:=hk
 have HQ:=Lib.hid hq
 obtain⟨m1,hm1⟩: ∃m,max q 0=m:=⟨_,rfl⟩
 obtain⟨m2,hm2⟩: ∃m,max (-q) 0=m:=⟨_,rfl⟩
 have hm1':=hm1
 have hm2':=hm2
 rw[hq]at hm1 hm2
 have HM:Hid (0≤m1∧m1<3000000∧0≤m2∧m2<3000000∧m1.toNat=q.toNat∧m2.toNat=(-q).toNat):=Lib.hid (by omega)
 clear h hb ht hq hm1' hm2'
 go_enter Tryz.func225,Tryz.ntmps225
 go_wp2_with fail
 have HB:Hid (Below w.heap.size w (w.alloc (.cells #[.bool s,.slice bo la ca,.slice none 0 0,.int .i64 e] 51))):=Lib.hid ((Below.refl _ _).alloc (Nat.le_refl _) _)
 refine(left_any _ _ t (H.out.1.below HB.out) H.out.2.1 m1 HM.out.1 (by have:=HM.out.2.1;omega)).mono ?_
 rintro en w1 ⟨v1,rfl,hv,hb⟩
 rw[HM.out.2.2.2.2.1]at hv
 obtain⟨hc,hf,hz,hbw⟩:=laid_facts hb
 have HV:=Lib.hid hv
 have HBl:=Lib.hid hb
 have HB1:=Lib.hid hbw
 clear hv hb hbw hf
 go_wp2_with fail
 refine(right_any w1 _ _ HV.out H.out.2.2 m2 HM.out.2.2.1 (by have:=HM.out.2.2.2.1;omega)).mono ?_
 rintro en w2 ⟨v2,rfl,hv2,hb2⟩
 rw[HM.out.2.2.2.2.2]at hv2
 obtain⟨hc2,hf2,hz2,hbw2⟩:=laid_facts (HBl.out.trans (hb2.mono HBl.out.size))
 have HV2:=Lib.hid hv2
 have HB2:=Lib.hid hbw2
 clear hv2 hb2 hbw2 hf2 hc hz
 go_wp2_with fail
 go_ret
 exact⟨_,rfl,HV2.out,HB2.out⟩
theorem Dn.isInt{w:World}{v:Value}{K:Int}{m:Nat}(h:Dn w v K (-(m:Int))): ∃s t e,Nm w v s t 1 e∧Dr s t e K (-(m:Int))∧
 ((0≤e∧Dr s t e (K/2^m) 0)∨(e<0∧0<t∧K/2^m=if s then-(t/2^(-e).toNat+1)else t/2^(-e).toNat)):=by
 obtain⟨s,t,e,h1,h2⟩:=h
 refine⟨s,t,e,h1,h2,?_⟩
 rcases h2 with⟨rfl,rfl,rfl,rfl⟩|⟨ht,hp,j,rfl,rfl⟩
 ·exact .inl ⟨by omega,.inl ⟨rfl,rfl,rfl,by simp⟩⟩
 ·by_cases he:0≤ -(m:Int)+j
  ·refine .inl ⟨he,.inr ⟨ht,hp,j-m,by omega,?_⟩⟩
   rw[show j=(j-m)+m by omega,Int.pow_add,←Int.mul_assoc,Int.mul_ediv_cancel _ (p2ne m)]
   simp
  ·refine .inr ⟨by omega,hp,?_⟩
   rw[show(-(-(m:Int)+j)).toNat=m-j by omega]
   have e1:(2:Int)^m=2^(m-j)*2^j:=by rw[←Int.pow_add];congr 1;omega
   rw[e1,Int.mul_ediv_mul_of_pos_left _ _ (p2pos j)]
   cases s
   ·rfl
   ·show(-t)/2^(m-j)= -(t/2^(m-j)+1)
    have hd:=Int.mul_ediv_add_emod t (2^(m-j))
    have hr0:=Int.emod_nonneg t (p2ne (m-j))
    have hr1:=Int.emod_lt_of_pos t (p2pos (m-j))
    have hne:t%2^(m-j)≠0:=by
     intro h0
     have e2:(2:Int)^(m-j)=2*2^(m-j-1):=by rw[←Int.pow_succ'];congr 1;omega
     rw[h0,e2,Int.mul_assoc]at hd
     omega
    generalize t/2^(m-j)=q at*
    generalize t%2^(m-j)=r at*
    have e3: -t=(2^(m-j)-r)+2^(m-j)*(-(q+1)):=by rw[←hd];grind
    rw[e3,Int.add_mul_ediv_left _ _ (p2ne _),Int.ediv_eq_zero_of_lt (by omega) (by omega)]
    omega
theorem floor_any(w:World)(hE:Env w)(v:Value)(K:Int)(m:Nat)(h:Dn w v K (-(m:Int)))(hK: -sml<K∧K<sml)(hm:m≤50000):
 Calls Tryz.prog 163 #[v] w (DnPost w (K/2^m) 0):=by
 obtain⟨s,t,e,h1,h2,h3⟩:=h.isInt
 have n0:=h1
 obtain⟨bo,la,ca,rfl,ht⟩:=h1.nilb
 have hb: -1000000≤e∧e≤1000000∧t<big:=by
  have:=sml_big
  rcases h2 with⟨rfl,rfl,rfl,rfl⟩|⟨_,hp,j,rfl,rfl⟩
  ·exact⟨by omega,by omega,by unfold big;exact ppos _⟩
  ·have e1:sg s t*2^j=sg s (t*2^j):=by
    cases s
    ·rfl
    ·exact Int.neg_mul _ _
   rw[e1]at hK
   have q:=(abs_sg (Int.le_of_lt (Int.mul_pos hp (p2pos j)))).1 hK
   have:=exp_lt hp q
   exact⟨by omega,by omega,lt_of_pow (j:=j) hp (by omega)⟩
 obtain⟨e0,e1,hbig⟩:=hb
 have HE:=Lib.hid hE
 have HT:=Lib.hid (And.intro ht hbig)
 have HN:=Lib.hid n0
 clear h h1 n0 hE h2 hK ht hbig
 generalize hR:K/2^m=R at h3⊢
 clear hR
 rcases h3 with⟨he,hd⟩|⟨he,hp,hd⟩
 ·have HD:=Lib.hid hd
  clear hd
  have hq:decide (0≤e)=true:=by simpa using he
  have hall:Hid (∀W,Below w.heap.size w W→Calls Tryz.prog 159 #[.agg #[.bool s,.slice bo la ca,.slice none 0 0,.int .i64 e]] W (BoolPost W true)):=Lib.hid (fun W hb=>by
   have:=isInt_any W _ s t 1 e (HN.out.below hb) (by omega)
   rwa [hq]at this)
  go_enter Tryz.func163,Tryz.ntmps163
  go_wp2_with fail
  obtain⟨hA,hB,hW0⟩:=boxes2 w #[.bool s,.slice bo la ca,.slice none 0 0,.int .i64 e] #[.bool false,.slice none 0 0,.slice none 0 0,.int .i64 0] 51
  have HT2:Hid (Two w _ w.heap.size _ _):=Lib.hid ⟨hW0,hA,hB⟩
  clear hA hB hW0
  refine(hall.out _ HT2.out.1).mono ?_
  rintro en w1 ⟨rfl,hb⟩
  have HT3:=Lib.hid (HT2.out.next hb)
  clear hb
  have cA:=HT3.out.2.1.cell
  have cB:=HT3.out.2.2.cell
  have fB:=HT3.out.2.2.free
  have lB:=HT3.out.2.2.lt
  go_wp2_with fail
  refine bodyPost_ret (v:=.agg #[.bool s,.slice bo la ca,.slice none 0 0,.int .i64 e]) (by simp[results,Tryz.results163,go_sem,cB,lB]) rfl ?_
  have ho:=Stored.only (w.heap.size+1) w1 s bo la ca none 0 0 e
  have hn:=(HN.out.below HT3.out.1).only ho HT3.out.2.2.noW
  exact⟨_,rfl,⟨s,t,e,hn,HD.out⟩,HT3.out.1.trans (ho.below HT3.out.1.size (by omega))⟩
 ·have hq:decide (0≤e)=false:=by simp;omega
  have hall:Hid (∀W,Below w.heap.size w W→Calls Tryz.prog 159 #[.agg #[.bool s,.slice bo la ca,.slice none 0 0,.int .i64 e]] W (BoolPost W false)):=Lib.hid (fun W hb=>by
   have:=isInt_any W _ s t 1 e (HN.out.below hb) (by omega)
   rwa [hq]at this)
  have hsc:Hid (∀W,Below w.heap.size w W→Calls Tryz.prog 225 #[.agg #[.bool s,.slice bo la ca,.slice none 0 0,.int .i64 e],.int .i64 0] W (NewNt W (t/2^(-e).toNat))):=Lib.hid (fun W hb=>by
   have:=scaled_raw W s bo la ca t e 0 e (HT.out.1.below hb) ⟨e0,e1⟩ (by omega) (by omega) (by rw[show e.toNat=0 by omega];simpa using HT.out.2)
   rwa [show e.toNat=0 by omega,Int.pow_zero,Int.mul_one]at this)
  have hlt:Hid (t/2^(-e).toNat+1<big∧t/2^(-e).toNat<big):=Lib.hid (by
   have h1:t/2^(-e).toNat<t:=by
    rw[Int.ediv_lt_iff_lt_mul (p2pos _)]
    have e2:(2:Int)^(-e).toNat=2*2^((-e).toNat-1):=by rw[←Int.pow_succ'];congr 1;omega
    rw[e2]
    have:=Int.mul_le_mul_of_nonneg_left (show(1:Int)≤2^((-e).toNat-1)from p2pos _) (Int.le_of_lt hp)
    have e3:t*(2*2^((-e).toNat-1))=2*(t*2^((-e).toNat-1)):=by grind
    omega
   have:=HT.out.2
   omega)
  generalize hu:t/2^(-e).toNat=u at hd hsc hlt
  have HD:=Lib.hid hd
  clear hd hu hp
  cases s
  ·go_enter Tryz.func163,Tryz.ntmps163
   go_wp2_with fail
   obtain⟨hA,hB,hW0⟩:=boxes2 w #[.bool false,.slice bo la ca,.slice none 0 0,.int .i64 e] #[.bool false,.slice none 0 0,.slice none 0 0,.int .i64 0] 51
   have HT2:Hid (Two w _ w.heap.size _ _):=Lib.hid ⟨hW0,hA,hB⟩
   clear hA hB hW0
   refine(hall.out _ HT2.out.1).mono ?_
   rintro en w1 ⟨rfl,hb⟩
   have HT3:=Lib.hid (HT2.out.next hb)
   clear hb
   have cA:=HT3.out.2.1.cell
   go_wp2_with fail
   refine(hsc.out _ HT3.out.1).mono ?_
   rintro en w2 ⟨v2,rfl,hv,hb⟩
   have HT4:=Lib.hid (HT3.out.next hb)
   have HV:=Lib.hid hv
   clear hb hv cA
   go_wp2_with fail
   refine(whole_any w2 (HE.out.below HT4.out.1) false v2 u HV.out hlt.out.2).mono ?_
   rintro en w3 ⟨v3,rfl,hv,hb⟩
   obtain⟨s3,o3,l3,c3,o32,l32,c32,x3,rfl⟩:=hv.shape
   have HT5:=Lib.hid (HT4.out.next hb)
   have HV3:=Lib.hid hv
   clear hb hv
   have cB:=HT5.out.2.2.cell
   have fB:=HT5.out.2.2.free
   have lB:=HT5.out.2.2.lt
   go_wp2_with fail
   refine bodyPost_ret (v:=.agg #[.bool s3,.slice o3 l3 c3,.slice o32 l32 c32,.int .i64 x3]) (by simp[results,Tryz.results163,go_sem,cB,lB]) rfl ?_
   have ho:=Stored.only (w.heap.size+1) w3 s3 o3 l3 c3 o32 l32 c32 x3
   have hn:=HV3.out.only ho HT5.out.2.2.noW
   have hh:R=sg false u:=HD.out
   rw[←hh]at hn
   exact⟨_,rfl,hn,HT5.out.1.trans (ho.below HT5.out.1.size (by omega))⟩
  ·go_enter Tryz.func163,Tryz.ntmps163
   go_wp2_with fail
   obtain⟨hA,hB,hW0⟩:=boxes2 w #[.bool true,.slice bo la ca,.slice none 0 0,.int .i64 e] #[.bool false,.slice none 0 0,.slice none 0 0,.int .i64 0] 51
   have HT2:Hid (Two w _ w.heap.size _ _):=Lib.hid ⟨hW0,hA,hB⟩
   clear hA hB hW0
   refine(hall.out _ HT2.out.1).mono ?_
   rintro en w1 ⟨rfl,hb⟩
   have HT3:=Lib.hid (HT2.out.next hb)
   clear hb
   have cA:=HT3.out.2.1.cell
   go_wp2_with fail
   refine(hsc.out _ HT3.out.1).mono ?_
   rintro en w2 ⟨v2,rfl,hv,hb⟩
   have HT4:=Lib.hid (HT3.out.next hb)
   have HV:=Lib.hid hv
   clear hb hv cA
   go_wp2_with fail
   refine(increase2 w2 v2 u HV.out hlt.out.2).mono ?_
   rintro en w2' ⟨v2',rfl,hv,hb⟩
   have HT4':=Lib.hid (HT4.out.next hb)
   have HV':=Lib.hid hv
   clear hb hv
   go_wp2_with fail
   refine(whole_any w2' (HE.out.below HT4'.out.1) true v2' (u+1) HV'.out hlt.out.1).mono ?_
   rintro en w3 ⟨v3,rfl,hv,hb⟩
   obtain⟨s3,o3,l3,c3,o32,l32,c32,x3,rfl⟩:=hv.shape
   have HT5:=Lib.hid (HT4'.out.next hb)
   have HV3:=Lib.hid hv
   clear hb hv
   have cB:=HT5.out.2.2.cell
   have fB:=HT5.out.2.2.free
   have lB:=HT5.out.2.2.lt
   go_wp2_with fail
   refine bodyPost_ret (v:=.agg #[.bool s3,.slice o3 l3 c3,.slice o32 l32 c32,.int .i64 x3]) (by simp[results,Tryz.results163,go_sem,cB,lB]) rfl ?_
   have ho:=Stored.only (w.heap.size+1) w3 s3 o3 l3 c3 o32 l32 c32 x3
   have hn:=HV3.out.only ho HT5.out.2.2.noW
   have hh:R=sg true (u+1):=HD.out
   rw[←hh]at hn
   exact⟨_,rfl,hn,HT5.out.1.trans (ho.below HT5.out.1.size (by omega))⟩
end Go.Proofs.YtedhbbjlbgpafaaGreatDoor
namespace Go.Proofs.YtedhbbjlbgpafaaGreatDoor
open Go.RowKit Go.Shelf
attribute [local go_sem] eqNil neqNil
def TwoPost(w:World)(x y:Int)(e:Ending)(w':World):Prop:=e=.returned (.tuple #[.int .i64 x,.int .i64 y])∧Below w.heap.size w w'
theorem word0{w:World}{v:Value}{t:Int}(h:Nt w v t)(ht:t<18446744073709551616): ∀W,Below w.heap.size w W→Calls Tryz.prog 160 #[v,.int .i64 0] W fun e w'=>e=.returned (.int .u64 t)∧w'=W:=by
 intro W hb
 rcases h with⟨rfl,rfl⟩|⟨b,off,cap,zs,rfl,h⟩
 ·exact(word_nil W 0 (by omega) (by omega)).mono fun _ _ h=>⟨h.1,h.2.symm⟩
 ·have e1:pw^1=18446744073709551616:=by decide
  have hl:zs.length≤1:=len_of_lt h.wd h.can h.val (k:=1) (by omega)
  have hp:=h.pos
  have hz:gd zs 0=t:=by
   have hv:=h.val
   match zs,hl,hp with
   |[z],_,_=>simp[nv]at hv;simp[gd];exact hv
  refine(word_any W _ t b off cap zs rfl (h.below hb) (word_big ht) 0 (by omega) (by omega)).mono ?_
  rintro e w' ⟨rfl,rfl⟩
  exact⟨by rw[show(0:Int).toNat=0 from rfl,hz],rfl⟩
theorem blen_mul{t:Int}(h:0<t)(j:Nat):blen (t*2^j)=blen t+j:=by
 obtain⟨a1,a2,a3⟩:=blen_spec h
 obtain⟨c,hc⟩: ∃c,blen t=c+1:=⟨blen t-1,by omega⟩
 rw[hc]at a1 a2⊢
 simp only[Nat.add_sub_cancel]at a1
 rw[show c+1+j=(c+j)+1 by omega]
 refine blen_unique ?_ ?_
 ·rw[Int.pow_add];exact Int.mul_le_mul_of_nonneg_right a1 (Int.le_of_lt (p2pos j))
 ·rw[show c+j+1=(c+1)+j by omega,Int.pow_add];exact Int.mul_lt_mul_of_pos_right a2 (p2pos j)
theorem blen_lt{x:Int}{k:Nat}(h0:0≤x):blen x≤k↔x<2^k:=by
 by_cases hx:x=0
 ·subst hx;simp[blen];exact p2pos k
 ·obtain⟨a1,a2,a3⟩:=blen_spec (show 0<x by omega)
  constructor
  ·intro h
   obtain⟨d,rfl⟩:=Nat.exists_eq_add_of_le h
   rw[Int.pow_add]
   have:=Int.mul_le_mul_of_nonneg_left (show(1:Int)≤2^d from p2pos d) (Int.le_of_lt (p2pos (blen x)))
   omega
  ·intro h
   apply Classical.byContradiction
   intro hc
   obtain⟨d,hd⟩: ∃d,blen x-1=k+d:=⟨blen x-1-k,by omega⟩
   rw[hd,Int.pow_add]at a1
   have:=Int.mul_le_mul_of_nonneg_left (show(1:Int)≤2^d from p2pos d) (Int.le_of_lt (p2pos k))
   omega
theorem int64_raw(w:World)(bo:Option Addr)(la ca:Nat)(t e K:Int)(h:Nt w (.slice bo la ca) t)(e0:0≤e)(e1:e≤1000000)(ht:t<big)(hK:K=t*2^e.toNat)(hz:t=0→e=0):
 (K<9223372036854775808→Calls Tryz.prog 81 #[.agg #[.bool false,.slice bo la ca,.slice none 0 0,.int .i64 e]] w (TwoPost w K 0))∧
 (9223372036854775808≤K→Calls Tryz.prog 81 #[.agg #[.bool false,.slice bo la ca,.slice none 0 0,.int .i64 e]] w (TwoPost w 0 7)):=by
 have h0:=h.nonneg
 have hK0:0≤K:=by rw[hK];exact Int.mul_nonneg h0 (Int.le_of_lt (p2pos _))
 have n0:Nm w (.agg #[.bool false,.slice bo la ca,.slice none 0 0,.int .i64 e]) false t 1 e:=⟨_,_,_,_,_,_,rfl,h,.inl ⟨rfl,rfl⟩⟩
 have hq:decide (0≤e)=true:=by simpa using e0
 have hall:Hid (∀W,Below w.heap.size w W→Calls Tryz.prog 159 #[.agg #[.bool false,.slice bo la ca,.slice none 0 0,.int .i64 e]] W (BoolPost W true)):=Lib.hid (fun W hb=>by
  have:=isInt_any W _ false t 1 e (n0.below hb) (by omega)
  rwa [hq]at this)
 obtain⟨L,hL⟩: ∃L,blen t=L:=⟨_,rfl⟩
 have hLb:=blen_big ht
 have hsz:Hid (∀W,Below w.heap.size w W→Calls Tryz.prog 150 #[.slice bo la ca] W fun en w'=>en=.returned (.int .i64 L)∧w'=W):=Lib.hid (fun W hb=>by
  refine(size_any W _ t (h.below hb) ht).mono ?_
  rintro en w' ⟨rfl,rfl⟩
  exact⟨by rw[hL],rfl⟩)
 have hbl:blen K=L+e.toNat∨(t=0∧e=0∧L=0∧K=0):=by
  by_cases htz:t=0
  ·right
   have:=hz htz
   subst htz this
   exact⟨rfl,rfl,by rw[←hL];rfl,by rw[hK];simp⟩
  ·left
   rw[hK,blen_mul (by omega),hL]
 rw[hL]at hLb
 have hlt64:(L:Int)+e≤64↔K<18446744073709551616:=by
  have h1:=blen_lt (k:=64) hK0
  rw[show(2:Int)^64=18446744073709551616 from rfl]at h1
  rw[←h1]
  rcases hbl with hbl|⟨_,he,hL0,hK00⟩
  ·rw[hbl];omega
  ·rw[hK00,hL0,he];simp[blen]
 have x1:IntKind.i64.wrap ((L:Int)+e)=L+e:=IntWalk.i64_in _ (by omega)
 have HB0:Hid (Below w.heap.size w (w.alloc (.cells #[.bool false,.slice bo la ca,.slice none 0 0,.int .i64 e] 51))):=Lib.hid ((Below.refl _ _).alloc (Nat.le_refl _) _)
 by_cases h64:(L:Int)+e≤64
 ·have hK64:=hlt64.1 h64
  have htK:t≤K:=by
   rw[hK]
   have:=Int.mul_le_mul_of_nonneg_left (show(1:Int)≤2^e.toNat from p2pos _) h0
   omega
  have hw:=Lib.hid (word0 h (by omega))
  have x2:IntKind.u64.wrap (t*2^e.toNat)=K:=by rw[←hK,IntKind.wrap_u64];omega
  have x3:IntKind.u64.wrap e=e:=by rw[IntKind.wrap_u64];omega
  have hgt:decide ((64:Int)<L+e)=false:=by simp;omega
  clear hlt64 hbl hK hL hq n0 h ht hz htK
  constructor
  ·intro hK63
   go_enter Tryz.func81,Tryz.ntmps81
   go_wp2_with fail
   refine(hall.out _ HB0.out).mono ?_
   rintro en w1 ⟨rfl,hb⟩
   obtain⟨hc,hf,hz,hbw⟩:=laid_facts hb
   have HB1:=Lib.hid hbw
   clear hb hbw hf
   go_wp2_with fail
   go_quiet ((go_at_call 150;exact Calls.quiet_of_same (hsz.out _ (HB1.out.trans ((Drw.step _ _).below _)))))
   go_wp2_with fail
   generalize hd:w1.drewN nq=w2
   have hD:Drw w1 w2:=hd▸Drw.step w1 _
   have hc2: ∀o,w2.cell? ⟨w.heap.size,o,none⟩=(w.alloc (.cells #[.bool false,.slice bo la ca,.slice none 0 0,.int .i64 e] 51)).cell? ⟨w.heap.size,o,none⟩:=fun o=>(hD.cell _).trans (hc o)
   have HB2:=Lib.hid (HB1.out.trans (hD.below _))
   clear hd hD hc hz
   go_quiet ((go_at_call 160;exact Calls.quiet_of_same (hw.out _ (HB2.out.trans ((Drw.step _ _).below _)))))
   go_wp2_with fail
   go_ret2
   exact⟨rfl,HB2.out.trans ((Drw.step _ _).below _)⟩
  ·intro hK63
   go_enter Tryz.func81,Tryz.ntmps81
   go_wp2_with fail
   refine(hall.out _ HB0.out).mono ?_
   rintro en w1 ⟨rfl,hb⟩
   obtain⟨hc,hf,hz,hbw⟩:=laid_facts hb
   have HB1:=Lib.hid hbw
   clear hb hbw hf
   go_wp2_with fail
   go_quiet ((go_at_call 150;exact Calls.quiet_of_same (hsz.out _ (HB1.out.trans ((Drw.step _ _).below _)))))
   go_wp2_with fail
   generalize hd:w1.drewN nq=w2
   have hD:Drw w1 w2:=hd▸Drw.step w1 _
   have hc2: ∀o,w2.cell? ⟨w.heap.size,o,none⟩=(w.alloc (.cells #[.bool false,.slice bo la ca,.slice none 0 0,.int .i64 e] 51)).cell? ⟨w.heap.size,o,none⟩:=fun o=>(hD.cell _).trans (hc o)
   have HB2:=Lib.hid (HB1.out.trans (hD.below _))
   clear hd hD hc hz
   go_quiet ((go_at_call 160;exact Calls.quiet_of_same (hw.out _ (HB2.out.trans ((Drw.step _ _).below _)))))
   go_wp2_with fail
   go_ret2
   exact⟨rfl,HB2.out.trans ((Drw.step _ _).below _)⟩
 ·have hK64: ¬K<18446744073709551616:=fun hc=>h64 (hlt64.2 hc)
  have hgt:decide ((64:Int)<L+e)=true:=by simp;omega
  refine⟨fun hc=>by omega,fun _=>?_⟩
  clear hlt64 hbl hK hL hq n0 h ht hz hK64 hK0
  go_enter Tryz.func81,Tryz.ntmps81
  go_wp2_with fail
  refine(hall.out _ HB0.out).mono ?_
  rintro en w1 ⟨rfl,hb⟩
  obtain⟨hc,hf,hz,hbw⟩:=laid_facts hb
  have HB1:=Lib.hid hbw
  clear hb hbw hf
  go_wp2_with fail
  go_quiet ((go_at_call 150;exact Calls.quiet_of_same (hsz.out _ (HB1.out.trans ((Drw.step _ _).below _)))))
  go_wp2_with fail
  go_ret2
  exact⟨rfl,HB1.out.trans ((Drw.step _ _).below _)⟩
theorem Dr.bounds{s:Bool}{t e K k:Int}(h:Dr s t e K k)(hK: -sml<K∧K<sml)(hk: -50000≤k∧k≤50000): -1000000≤e∧e≤1000000∧t<big:=by
 have h2:=sml_big
 rcases h with⟨rfl,rfl,rfl,rfl⟩|⟨_,hp,j,rfl,rfl⟩
 ·exact⟨by omega,by omega,by unfold big;exact ppos _⟩
 ·have e1:sg s t*2^j=sg s (t*2^j):=by
   cases s
   ·rfl
   ·exact Int.neg_mul _ _
  rw[e1]at hK
  have q:=(abs_sg (Int.le_of_lt (Int.mul_pos hp (p2pos j)))).1 hK
  have:=exp_lt hp q
  exact⟨by omega,by omega,lt_of_pow (j:=j) hp (by omega)⟩
theorem int64_any(w:World)(v:Value)(K:Int)(h:Dn w v K 0)(h0:0≤K)(hK:K<sml):
 (K<9223372036854775808→Calls Tryz.prog 81 #[v] w (TwoPost w K 0))∧(9223372036854775808≤K→Calls Tryz.prog 81 #[v] w (TwoPost w 0 7)):=by
 obtain⟨s,t,e,h1,h2⟩:=h
 have hs: -sml<K∧K<sml:=⟨by have:=h0;have:(0:Int)<sml:=p2pos _;omega,hK⟩
 obtain⟨b0,b1,b2⟩:=h2.bounds hs (by omega)
 obtain⟨bo,la,ca,rfl,ht⟩:=h1.nilb
 rcases h2 with⟨rfl,rfl,rfl,rfl⟩|⟨_,hp,j,rfl,rfl⟩
 ·exact int64_raw w bo la ca 0 0 0 ht (by omega) (by omega) b2 (by simp) (fun _=>rfl)
 ·have hpos:=Int.mul_pos hp (p2pos j)
  cases s
  ·exact int64_raw w bo la ca t (0+j) _ ht (by omega) b1 b2 (by rw[show((0:Int)+j).toNat=j by omega];rfl) (fun h=>by omega)
  ·exfalso
   have:sg true t*2^j= -(t*2^j):=Int.neg_mul _ _
   omega
theorem Log_nil(w:World)(v:Value)(s:Bool)(t e:Int)(h:Nm w v s t 1 e)(ht:t<big)(h0:0<t)(he0: -1000000≤e)(he1:e≤1000000):
 Calls Tryz.prog 173 #[v] w (TwoPost w (blen t-1+e) 0):=by
 have n0:=h
 obtain⟨bo,la,ca,rfl,h1⟩:=h.nilb
 obtain⟨a,rfl⟩: ∃a,bo=some a:=by
  cases bo with
  |none=>have:=h1.isNone;simp at this;omega
  |some a=>exact⟨a,rfl⟩
 have HB0:Hid (Below w.heap.size w (w.alloc (.cells #[.bool s,.slice (some a) la ca,.slice none 0 0,.int .i64 e] 51))):=Lib.hid ((Below.refl _ _).alloc (Nat.le_refl _) _)
 have hl:=Lib.hid (log_nil _ _ s t e (n0.below HB0.out) ht h0 he0 he1)
 clear n0 h h1 ht h0
 generalize (blen t:Int)-1+e=R at hl⊢
 go_enter Tryz.func173,Tryz.ntmps173
 go_wp2_with fail
 refine hl.out.mono ?_
 rintro en w1 ⟨rfl,hb⟩
 obtain⟨hc,hf,hz,hbw⟩:=laid_facts hb
 have HB1:=Lib.hid hbw
 clear hb hbw hf hc hz
 go_wp2_with fail
 go_ret2
 exact⟨rfl,HB1.out⟩
theorem Log_zero(w:World)(s:Bool)(bo2:Option Addr)(lb cb:Nat)(e:Int):
 Calls Tryz.prog 173 #[.agg #[.bool s,.slice none 0 0,.slice bo2 lb cb,.int .i64 e]] w (TwoPost w 0 8):=by
 go_enter Tryz.func173,Tryz.ntmps173
 go_wp2_with fail
 go_ret2
 exact⟨rfl,(Below.refl _ _).alloc (Nat.le_refl _) _⟩
end Go.Proofs.YtedhbbjlbgpafaaGreatDoor
namespace Go.Proofs.YtedhbbjlbgpafaaGreatDoor
open Go.RowKit Go.Shelf
def Wn(h l X:Int):Prop:=0≤h∧h<18446744073709551616∧0≤l∧l<18446744073709551616∧X=h*18446744073709551616+l
def WPost(w:World)(X:Int)(e:Ending)(w':World):Prop:= ∃h l,e=.returned (.agg #[.int .u64 h,.int .u64 l])∧Wn h l X∧Below w.heap.size w w'
def two128:Int:=2^128
theorem two128_eq:two128=340282366920938463463374607431768211456:=by decide
theorem Wn.range{h l X:Int}(w:Wn h l X):0≤X∧X<two128:=by
 rw[two128_eq]
 obtain⟨a,b,c,d,rfl⟩:=w
 omega
theorem below3(w:World)(a b c:Obj):Below w.heap.size w (((w.alloc a).alloc b).alloc c):=(((Below.refl _ _).alloc (Nat.le_refl _) _).alloc (by simp) _).alloc (by simp;omega) _
theorem plus_any(w:World)(h1 l1 X h2 l2 Y:Int)(a:Wn h1 l1 X)(b:Wn h2 l2 Y):
 Calls Tryz.prog 141 #[.agg #[.int .u64 h1,.int .u64 l1],.agg #[.int .u64 h2,.int .u64 l2]] w (WPost w ((X+Y)%two128)):=by
 obtain⟨a1,a2,a3,a4,a5⟩:=a
 obtain⟨b1,b2,b3,b4,b5⟩:=b
 obtain⟨c,hc⟩: ∃c,(l1+l2)/18446744073709551616=c:=⟨_,rfl⟩
 have c0:0≤c∧c≤1:=by omega
 have HW:Hid (Wn ((h1+h2+c)%18446744073709551616) ((l1+l2)%18446744073709551616) ((X+Y)%two128)):=Lib.hid (by
  rw[two128_eq]
  refine⟨by omega,by omega,by omega,by omega,?_⟩
  omega)
 generalize (X+Y)%two128=Z at HW⊢
 obtain⟨c1,c2⟩:=c0
 have k1:=fun w=>add64_0 l1 l2 a3 b3 w
 have k2:=fun w=>add64 h1 h2 c a1 b1 c1 c2 w
 rw[hc]at k1
 generalize hl:(l1+l2)%18446744073709551616=lo at k1 HW
 generalize hh:(h1+h2+c)%18446744073709551616=hi at k2 HW
 clear hc hl hh a5 b5
 go_enter Tryz.func141,Tryz.ntmps141
 go_wp2_with (first|simp only[k1]|simp only[k2])
 refine bodyPost_ret (v:=.agg #[.int .u64 hi,.int .u64 lo]) (by simp[results,Tryz.results141,go_sem]) rfl ?_
 exact⟨hi,lo,rfl,HW.out,below3 _ _ _ _⟩
theorem minus_any(w:World)(h1 l1 X h2 l2 Y:Int)(a:Wn h1 l1 X)(b:Wn h2 l2 Y):
 Calls Tryz.prog 146 #[.agg #[.int .u64 h1,.int .u64 l1],.agg #[.int .u64 h2,.int .u64 l2]] w (WPost w ((X-Y)%two128)):=by
 obtain⟨a1,a2,a3,a4,a5⟩:=a
 obtain⟨b1,b2,b3,b4,b5⟩:=b
 obtain⟨c,hc⟩: ∃c,bor l1 l2=c:=⟨_,rfl⟩
 have c0:0≤c∧c≤1:=hc▸bor_01 l1 l2
 have HW:Hid (Wn ((h1-h2-c)%18446744073709551616) ((l1-l2)%18446744073709551616) ((X-Y)%two128)):=Lib.hid (by
  have:=bor_eq l1 l2 a3 a4 b3 (by omega)
  rw[hc]at this
  rw[two128_eq]
  refine⟨by omega,by omega,by omega,by omega,?_⟩
  omega)
 generalize (X-Y)%two128=Z at HW⊢
 obtain⟨c1,c2⟩:=c0
 have k1:=fun w=>sub64_0 l1 l2 a3 b3 b4 w
 have k2:=fun w=>sub64 h1 h2 c a1 b1 b2 c1 c2 w
 rw[hc]at k1
 generalize hl:(l1-l2)%18446744073709551616=lo at k1 HW
 generalize hh:(h1-h2-c)%18446744073709551616=hi at k2 HW
 clear hc hl hh a5 b5
 go_enter Tryz.func146,Tryz.ntmps146
 go_wp2_with (first|simp only[k1]|simp only[k2])
 refine bodyPost_ret (v:=.agg #[.int .u64 hi,.int .u64 lo]) (by simp[results,Tryz.results146,go_sem]) rfl ?_
 exact⟨hi,lo,rfl,HW.out,below3 _ _ _ _⟩
theorem less_any(w:World)(h1 l1 X h2 l2 Y:Int)(a:Wn h1 l1 X)(b:Wn h2 l2 Y):
 Calls Tryz.prog 181 #[.agg #[.int .u64 h1,.int .u64 l1],.agg #[.int .u64 h2,.int .u64 l2]] w (BoolPost w (decide (X<Y))):=by
 obtain⟨a1,a2,a3,a4,a5⟩:=a
 obtain⟨b1,b2,b3,b4,b5⟩:=b
 have hb2:Below w.heap.size w ((w.alloc (.cells #[.int .u64 h1,.int .u64 l1] 26)).alloc (.cells #[.int .u64 h2,.int .u64 l2] 26)):=((Below.refl _ _).alloc (Nat.le_refl _) _).alloc (by simp) _
 have HB:=Lib.hid hb2
 clear hb2
 rcases Int.lt_trichotomy h1 h2 with h|h|h
 ·have HR:Hid (decide (X<Y)=true):=Lib.hid (by simp;omega)
  generalize decide (X<Y)=r at HR⊢
  have hd:decide (h1<h2)=true:=by simpa using h
  clear a5 b5
  go_enter Tryz.func181,Tryz.ntmps181
  go_wp2
  go_ret
  exact⟨by rw[HR.out];rfl,HB.out⟩
 ·subst h
  have HR:Hid (decide (X<Y)=decide (l1<l2)):=Lib.hid (by
   by_cases q:l1<l2
   ·simp[q];omega
   ·simp[q];omega)
  generalize decide (X<Y)=r at HR⊢
  have hd:decide (h1<h1)=false:=by simp
  have he:(h1==h1)=true:=by simp
  clear a5 b5
  go_enter Tryz.func181,Tryz.ntmps181
  go_wp2
  go_ret
  exact⟨by rw[HR.out];rfl,HB.out⟩
 ·have HR:Hid (decide (X<Y)=false):=Lib.hid (by simp;omega)
  generalize decide (X<Y)=r at HR⊢
  have hd:decide (h1<h2)=false:=by simp;omega
  have he:(h1==h2)=false:=by simp;omega
  clear a5 b5
  go_enter Tryz.func181,Tryz.ntmps181
  go_wp2
  go_ret
  exact⟨by rw[HR.out];rfl,HB.out⟩
end Go.Proofs.YtedhbbjlbgpafaaGreatDoor
