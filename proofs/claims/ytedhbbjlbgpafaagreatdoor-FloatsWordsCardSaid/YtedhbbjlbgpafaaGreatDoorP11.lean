/-
  Contracts of package floats's shifts of words.
-/
import Derived.Test.YtedhbbjlbgpafaaGreatDoorP10
import Derived.Deep.RegionHeld3
import Derived.Lib.ItoaNum
set_option linter.unusedVariables false
set_option linter.unusedSimpArgs false
set_option maxRecDepth 1000000
set_option maxHeartbeats 1000000
namespace Go.Proofs.YtedhbbjlbgpafaaGreatDoor
open Go.RowKit Go.Shelf
theorem or_zero(x:Int)(h0:0≤x)(h1:x<18446744073709551616):bits BinOp.or IntKind.u64 x 0=x:=by
 obtain⟨x,rfl⟩:=Int.eq_ofNat_of_zero_le h0
 have:=bits_or_u64_nat x 0 (by omega) (by omega)
 simpa using this
theorem zero_or(x:Int)(h0:0≤x)(h1:x<18446744073709551616):bits BinOp.or IntKind.u64 0 x=x:=by
 obtain⟨x,rfl⟩:=Int.eq_ofNat_of_zero_le h0
 have:=bits_or_u64_nat 0 x (by omega) (by omega)
 simpa using this
theorem or_self(x:Int)(h0:0≤x)(h1:x<18446744073709551616):bits BinOp.or IntKind.u64 x x=x:=by
 obtain⟨x,rfl⟩:=Int.eq_ofNat_of_zero_le h0
 have:=bits_or_u64_nat x x (by omega) (by omega)
 simpa using this
theorem wrap_big(x:Int)(n:Nat)(h:64≤n):IntKind.u64.wrap (x*2^n)=0:=by
 rw[IntKind.wrap_u64]
 obtain⟨d,rfl⟩:=Nat.exists_eq_add_of_le h
 rw[Int.pow_add,show(2:Int)^64=18446744073709551616 from rfl,←Int.mul_assoc,Int.mul_comm x,Int.mul_assoc]
 exact Int.mul_emod_right _ _
theorem div_big(x:Int)(n:Nat)(h:64≤n)(h0:0≤x)(h1:x<18446744073709551616):x/2^n=0:=by
 refine Int.ediv_eq_zero_of_lt h0 ?_
 obtain⟨d,rfl⟩:=Nat.exists_eq_add_of_le h
 rw[Int.pow_add,show(2:Int)^64=18446744073709551616 from rfl]
 have:=Int.mul_le_mul_of_nonneg_left (show(1:Int)≤2^d from p2pos d) (show(0:Int)≤18446744073709551616 by omega)
 omega
theorem below2(w:World)(a b:Obj):Below w.heap.size w ((w.alloc a).alloc b):=((Below.refl _ _).alloc (Nat.le_refl _) _).alloc (by simp) _
theorem left_low{h l X:Int}(k:Nat)(hk:k<64)(a:Wn h l X):Wn (h*2^k%18446744073709551616+l/2^(64-k)) (l*2^k%18446744073709551616) (X*2^k%two128):=by
 obtain⟨a1,a2,a3,a4,rfl⟩:=a
 have s1:=split_word h k (by omega)
 have s2:=split_word l k (by omega)
 have q0:0≤l/2^(64-k):=Int.ediv_nonneg a3 (Int.le_of_lt (p2pos _))
 have q1:=div_lt_p2 l k (by omega) a4
 have hw:=hw_word (zs:=[l,h]) (fun z hz=>by
  simp at hz
  rcases hz with rfl|rfl
  ·exact⟨a3,a4⟩
  ·exact⟨a1,a2⟩) k (by omega) 1
 simp only[hw_succ,gd_cons_succ,gd_cons_zero]at hw
 have hw':0≤h*2^k%18446744073709551616+l/2^(64-k)∧h*2^k%18446744073709551616+l/2^(64-k)<18446744073709551616:=hw
 have l0:0≤l*2^k%18446744073709551616:=Int.emod_nonneg _ (by omega)
 have l1:l*2^k%18446744073709551616<18446744073709551616:=Int.emod_lt_of_pos _ (by omega)
 refine⟨hw'.1,hw'.2,l0,l1,?_⟩
 have e:(h*18446744073709551616+l)*2^k=(h*2^k)*18446744073709551616+l*2^k:=by grind
 rw[e,two128_eq]
 generalize h*2^k=H at*
 generalize l*2^k=L at*
 generalize h/2^(64-k)=q at*
 generalize l/2^(64-k)=r at*
 omega
theorem left_high{h l X:Int}(j:Nat)(hj:j<64)(a:Wn h l X):Wn (l*2^j%18446744073709551616) 0 (X*2^(64+j)%two128):=by
 obtain⟨a1,a2,a3,a4,rfl⟩:=a
 have l0:0≤l*2^j%18446744073709551616:=Int.emod_nonneg _ (by omega)
 have l1:l*2^j%18446744073709551616<18446744073709551616:=Int.emod_lt_of_pos _ (by omega)
 refine⟨l0,l1,by omega,by omega,?_⟩
 have e:(h*18446744073709551616+l)*2^(64+j)=(h*2^j)*340282366920938463463374607431768211456+(l*2^j)*18446744073709551616:=by
  rw[Int.pow_add,show(2:Int)^64=18446744073709551616 from rfl];grind
 rw[e,two128_eq]
 generalize h*2^j=H at*
 generalize l*2^j=L at*
 omega
theorem wleft_any(w:World)(h l X:Int)(a:Wn h l X)(k:Nat)(hk:k≤127):
 Calls Tryz.prog 164 #[.agg #[.int .u64 h,.int .u64 l],.int .i64 k] w (WPost w (X*2^k%two128)):=by
 have A:=Lib.hid a
 obtain⟨a1,a2,a3,a4,a5⟩:=a
 have xk:IntKind.u64.wrap (k:Int)=k:=by rw[IntKind.wrap_u64];omega
 obtain⟨m1,hm1⟩: ∃m,IntKind.u64.wrap (64-(k:Int))=m:=⟨_,rfl⟩
 obtain⟨m2,hm2⟩: ∃m,IntKind.u64.wrap ((k:Int)-64)=m:=⟨_,rfl⟩
 have hm1':=hm1
 have hm2':=hm2
 rw[IntKind.wrap_u64]at hm1' hm2'
 by_cases hk64:k<64
 ·have HW:=Lib.hid (left_low k hk64 A.out)
  have f1:=or_high (l/2^(64-k)) h k (by omega) (Int.ediv_nonneg a3 (Int.le_of_lt (p2pos _))) (div_lt_p2 l k (by omega) a4) a1 a2
  obtain⟨c2,hc2⟩: ∃c,min m2.toNat 64=c:=⟨_,rfl⟩
  have f2:IntKind.u64.wrap (l*2^c2)=0:=wrap_big l _ (by omega)
  have f3:=or_zero _ HW.out.1 HW.out.2.1
  have f4:IntKind.u64.wrap (l*2^k)=l*2^k%18446744073709551616:=IntKind.wrap_u64 _
  have mt:m1.toNat=64-k:=by omega
  have hmb:0≤m1∧0≤m2:=by omega
  obtain⟨hmb1,hmb2⟩:=hmb
  generalize X*2^k%two128=Z at HW⊢
  generalize h*2^k%18446744073709551616+l/2^(64-k)=hi at HW f1 f3
  generalize l*2^k%18446744073709551616=lo at HW f4
  clear hm1' hm2' a5 A
  go_enter Tryz.func164,Tryz.ntmps164
  go_wp2
  refine bodyPost_ret (v:=.agg #[.int .u64 hi,.int .u64 lo]) (by simp[results,Tryz.results164,go_sem]) rfl ?_
  exact⟨hi,lo,rfl,HW.out,below2 _ _ _⟩
 ·obtain⟨j,hj'⟩: ∃j,k=64+j:=⟨k-64,by omega⟩
  have HW:=Lib.hid (left_high j (by omega) A.out)
  rw[←hj']at HW
  obtain⟨c0,hc0⟩: ∃c,min k 64=c:=⟨_,rfl⟩
  obtain⟨c1,hc1⟩: ∃c,min m1.toNat 64=c:=⟨_,rfl⟩
  have g1:IntKind.u64.wrap (h*2^c0)=0:=wrap_big h _ (by omega)
  have g2:IntKind.u64.wrap (l*2^c0)=0:=wrap_big l _ (by omega)
  have g3:IntKind.u64.wrap (l*2^j)=l*2^j%18446744073709551616:=IntKind.wrap_u64 _
  have mt:m2.toNat=j:=by omega
  have hmb:0≤m1∧0≤m2∧m2<64:=by omega
  obtain⟨hmb1,hmb2,hmb3⟩:=hmb
  rcases Nat.eq_zero_or_pos j with rfl|hj
  ·have hx:Hid (l*2^0%18446744073709551616=l):=Lib.hid (by simp;omega)
   have g4:l/2^c1=l:=by rw[show c1=0 by omega];simp
   rw[hx.out]at HW g3
   have g5:=zero_or l a3 a4
   have g6:=or_self l a3 a4
   generalize X*2^k%two128=Z at HW⊢
   clear hm1' hm2' a5 A hj'
   go_enter Tryz.func164,Tryz.ntmps164
   go_wp2
   refine bodyPost_ret (v:=.agg #[.int .u64 l,.int .u64 0]) (by simp[results,Tryz.results164,go_sem]) rfl ?_
   exact⟨l,0,rfl,HW.out,below2 _ _ _⟩
  ·have g4:l/2^c1=0:=div_big l _ (by omega) a3 a4
   have g5:=zero_or 0 (by omega) (by omega)
   have g6:=zero_or _ HW.out.1 HW.out.2.1
   generalize X*2^k%two128=Z at HW⊢
   generalize l*2^j%18446744073709551616=hi at HW g3 g6
   clear hm1' hm2' a5 A hj'
   go_enter Tryz.func164,Tryz.ntmps164
   go_wp2
   refine bodyPost_ret (v:=.agg #[.int .u64 hi,.int .u64 0]) (by simp[results,Tryz.results164,go_sem]) rfl ?_
   exact⟨hi,0,rfl,HW.out,below2 _ _ _⟩
theorem right_low{h l X:Int}(k:Nat)(hk:k<64)(a:Wn h l X):Wn (h/2^k) ((l+18446744073709551616*h)/2^k%18446744073709551616) (X/2^k):=by
 obtain⟨a1,a2,a3,a4,rfl⟩:=a
 have h0:0≤h/2^k:=Int.ediv_nonneg a1 (Int.le_of_lt (p2pos _))
 have h1:h/2^k≤h:=Int.ediv_le_self _ a1
 refine⟨h0,by omega,Int.emod_nonneg _ (by omega),Int.emod_lt_of_pos _ (by omega),?_⟩
 have:=word_div l h h k (by omega) a3 a4 ⟨0,by omega⟩
 rw[show h*18446744073709551616+l=l+18446744073709551616*h by omega,←this]
 omega
theorem right_high{h l X:Int}(j:Nat)(a:Wn h l X):Wn 0 (h/2^j) (X/2^(64+j)):=by
 obtain⟨a1,a2,a3,a4,rfl⟩:=a
 have h0:0≤h/2^j:=Int.ediv_nonneg a1 (Int.le_of_lt (p2pos _))
 have h1:h/2^j≤h:=Int.ediv_le_self _ a1
 refine⟨by omega,by omega,h0,by omega,?_⟩
 rw[Int.pow_add,←Int.ediv_ediv_of_nonneg (Int.le_of_lt (p2pos 64)),show(2:Int)^64=18446744073709551616 from rfl]
 rw[show(h*18446744073709551616+l)/18446744073709551616=h by omega]
 omega
theorem wright_any(w:World)(h l X:Int)(a:Wn h l X)(k:Nat)(hk:k≤127):
 Calls Tryz.prog 143 #[.agg #[.int .u64 h,.int .u64 l],.int .i64 k] w (WPost w (X/2^k)):=by
 have A:=Lib.hid a
 obtain⟨a1,a2,a3,a4,a5⟩:=a
 have xk:IntKind.u64.wrap (k:Int)=k:=by rw[IntKind.wrap_u64];omega
 obtain⟨m1,hm1⟩: ∃m,IntKind.u64.wrap (64-(k:Int))=m:=⟨_,rfl⟩
 obtain⟨m2,hm2⟩: ∃m,IntKind.u64.wrap ((k:Int)-64)=m:=⟨_,rfl⟩
 have hm1':=hm1
 have hm2':=hm2
 rw[IntKind.wrap_u64]at hm1' hm2'
 by_cases hk64:k<64
 ·have HW:=Lib.hid (right_low k hk64 A.out)
  obtain⟨c2,hc2⟩: ∃c,min m2.toNat 64=c:=⟨_,rfl⟩
  have f2:h/2^c2=0:=div_big h _ (by omega) a1 a2
  have hmb:0≤m1∧0≤m2:=by omega
  obtain⟨hmb1,hmb2⟩:=hmb
  rcases Nat.eq_zero_or_pos k with rfl|hk0
  ·have hx:Hid ((l+18446744073709551616*h)/2^0%18446744073709551616=l):=Lib.hid (by simp;omega)
   have hy:Hid (h/2^0=h):=Lib.hid (by simp)
   rw[hx.out,hy.out]at HW
   have g1:IntKind.u64.wrap (h*18446744073709551616)=0:=wrap_big h 64 (by omega)
   have g3:IntKind.u64.wrap (-64)=m2:=by rw[←hm2];rfl
   have g2:=or_zero l a3 a4
   generalize X/2^0=Z at HW⊢
   clear hm1' hm2' a5 A
   go_enter Tryz.func143,Tryz.ntmps143
   go_wp2
   refine bodyPost_ret (v:=.agg #[.int .u64 h,.int .u64 l]) (by simp[results,Tryz.results143,go_sem]) rfl ?_
   exact⟨h,l,rfl,HW.out,below2 _ _ _⟩
  ·have mt:m1.toNat=64-k:=by omega
   have hm64:m1<64:=by omega
   have f1:=or_shift l h k (by omega) a3 a4 a1 a2
   have f3:=or_zero _ HW.out.2.2.1 HW.out.2.2.2.1
   generalize X/2^k=Z at HW⊢
   generalize (l+18446744073709551616*h)/2^k%18446744073709551616=lo at HW f1 f3
   clear hm1' hm2' a5 A
   go_enter Tryz.func143,Tryz.ntmps143
   go_wp2
   refine bodyPost_ret (v:=.agg #[.int .u64 (h/2^k),.int .u64 lo]) (by simp[results,Tryz.results143,go_sem]) rfl ?_
   exact⟨_,lo,rfl,HW.out,below2 _ _ _⟩
 ·obtain⟨j,hj'⟩: ∃j,k=64+j:=⟨k-64,by omega⟩
  have HW:=Lib.hid (right_high j A.out)
  rw[←hj']at HW
  obtain⟨c0,hc0⟩: ∃c,min k 64=c:=⟨_,rfl⟩
  obtain⟨c1,hc1⟩: ∃c,min m1.toNat 64=c:=⟨_,rfl⟩
  have g1:h/2^c0=0:=div_big h _ (by omega) a1 a2
  have g2:l/2^c0=0:=div_big l _ (by omega) a3 a4
  have mt:m2.toNat=j:=by omega
  have hmb:0≤m1∧0≤m2∧m2<64:=by omega
  obtain⟨hmb1,hmb2,hmb3⟩:=hmb
  rcases Nat.eq_zero_or_pos j with rfl|hj
  ·have hx:Hid (h/2^0=h):=Lib.hid (by simp)
   have g4:IntKind.u64.wrap (h*2^c1)=h:=by rw[show c1=0 by omega,IntKind.wrap_u64];simp;omega
   rw[hx.out]at HW
   have g5:=zero_or h a1 a2
   have g6:=or_self h a1 a2
   generalize X/2^k=Z at HW⊢
   clear hm1' hm2' a5 A hj'
   go_enter Tryz.func143,Tryz.ntmps143
   go_wp2
   refine bodyPost_ret (v:=.agg #[.int .u64 0,.int .u64 h]) (by simp[results,Tryz.results143,go_sem]) rfl ?_
   exact⟨0,h,rfl,HW.out,below2 _ _ _⟩
  ·have g4:IntKind.u64.wrap (h*2^c1)=0:=wrap_big h _ (by omega)
   have g5:=zero_or 0 (by omega) (by omega)
   have g6:=zero_or _ HW.out.2.2.1 HW.out.2.2.2.1
   generalize X/2^k=Z at HW⊢
   clear hm1' hm2' a5 A hj'
   go_enter Tryz.func143,Tryz.ntmps143
   go_wp2
   refine bodyPost_ret (v:=.agg #[.int .u64 0,.int .u64 (h/2^j)]) (by simp[results,Tryz.results143,go_sem]) rfl ?_
   exact⟨0,_,rfl,HW.out,below2 _ _ _⟩
end Go.Proofs.YtedhbbjlbgpafaaGreatDoor
namespace Go.Proofs.YtedhbbjlbgpafaaGreatDoor
open Go.RowKit Go.Shelf
attribute [local go_sem] eqNil neqNil
theorem one_any(w:World):Calls Tryz.prog 145 #[] w fun e w'=>e=.returned (.agg #[.int .u64 0,.int .u64 1])∧Below w.heap.size w w':=by
 go_enter Tryz.func145,Tryz.ntmps145
 go_wp2
 refine bodyPost_ret (v:=.agg #[.int .u64 0,.int .u64 1]) (by simp[results,Tryz.results145,go_sem]) rfl ?_
 exact⟨rfl,(Below.refl _ _).alloc (Nat.le_refl _) _⟩
theorem stored2(g:Nat)(w:World)(a b:Value):Only g w ((w.setCell ⟨g,0,none⟩ a).setCell ⟨g,1,none⟩ b):=((Only.refl g w).set _ _).set _ _
theorem bit_any(w:World)(k:Int)(h0:0≤k)(h1:k≤127):Calls Tryz.prog 142 #[.int .i64 k] w (WPost w (2^k.toNat)):=by
 obtain⟨k,rfl⟩:=Int.eq_ofNat_of_zero_le h0
 rw[Int.toNat_natCast]
 have hX:Hid ((1:Int)*2^k%two128=2^k):=Lib.hid (by
  rw[Int.one_mul]
  refine Int.emod_eq_of_lt (Int.le_of_lt (p2pos k)) ?_
  unfold two128
  obtain⟨d,hd⟩: ∃d,128=k+(d+1):=⟨127-k,by omega⟩
  rw[hd,Int.pow_add,Int.pow_succ]
  have h2:=Int.mul_le_mul_of_nonneg_left (show(1:Int)≤2^d from p2pos d) (Int.le_of_lt (p2pos k))
  have h3:(2:Int)^k*(2^d*2)=2^k*2^d*2:=by grind
  have:=p2pos k
  omega)
 have HB0:Hid (Below w.heap.size w (w.alloc (.cells #[.int .u64 0,.int .u64 0] 26))):=Lib.hid ((Below.refl _ _).alloc (Nat.le_refl _) _)
 have hl:=fun W=>wleft_any W 0 1 1 ⟨by omega,by omega,by omega,by omega,by omega⟩ k (by omega)
 have HL:=Lib.hid hl
 clear hl
 go_enter Tryz.func142,Tryz.ntmps142
 go_wp2_with fail
 refine(one_any _).mono ?_
 rintro en w1 ⟨rfl,hb⟩
 have HB1:=Lib.hid hb
 clear hb
 go_wp2_with fail
 refine(HL.out w1).mono ?_
 rintro en w2 ⟨h,l,rfl,hw,hb⟩
 obtain⟨hc,hf,hz,hbw⟩:=laid_facts (HB1.out.trans (hb.mono HB1.out.size))
 have HB2:=Lib.hid hbw
 have HW:=Lib.hid (hX.out▸hw)
 clear hb hbw hw
 go_wp2_with fail
 refine bodyPost_ret (v:=.agg #[.int .u64 h,.int .u64 l]) (by simp[results,Tryz.results142,go_sem,hc,hz]) rfl ?_
 have ho:=stored2 w.heap.size w2 (.int .u64 h) (.int .u64 l)
 exact⟨h,l,rfl,HW.out,HB2.out.trans (ho.below HB2.out.size (Nat.le_refl _))⟩
theorem boxes2'(w:World)(A B:Array Value)(T U:TypeId):Box ((w.alloc (.cells A T)).alloc (.cells B U)) w.heap.size A∧Box ((w.alloc (.cells A T)).alloc (.cells B U)) (w.heap.size+1) B∧
 Below w.heap.size w ((w.alloc (.cells A T)).alloc (.cells B U)):=by
 refine⟨(Box.new w A T).alloc _,?_,((Below.refl _ _).alloc (Nat.le_refl _) _).alloc (by simp) _⟩
 have:=Box.new (w.alloc (.cells A T)) B U
 rwa [World.size_alloc]at this
def Fmt(E P:Int):Prop:=2≤E∧E≤11∧2≤P∧P≤113∧5≤E+P
theorem check_yes(w:World)(E P:Int)(h:Fmt E P):Calls Tryz.prog 172 #[.agg #[.int .i64 E,.int .i64 P]] w (IntPost w 0):=by
 obtain⟨h1,h2,h3,h4,h5⟩:=h
 go_enter Tryz.func172,Tryz.ntmps172
 go_wp2
 go_ret
 exact⟨rfl,(Below.refl _ _).alloc (Nat.le_refl _) _⟩
theorem check_no(w:World)(E P:Int)(h: ¬Fmt E P):Calls Tryz.prog 172 #[.agg #[.int .i64 E,.int .i64 P]] w (IntPost w 2):=by
 unfold Fmt at h
 rcases(show E<2∨(2≤E∧11<E)∨(2≤E∧E≤11∧P<2)∨(2≤E∧E≤11∧2≤P∧113<P)∨(2≤E∧E≤11∧2≤P∧P≤113∧E+P<5)by omega)with h|⟨h1,h2⟩|⟨h1,h2,h3⟩|⟨h1,h2,h3,h4⟩|⟨h1,h2,h3,h4,h5⟩
 all_goals
  go_enter Tryz.func172,Tryz.ntmps172
  go_wp2
  go_ret
  exact⟨rfl,(Below.refl _ _).alloc (Nat.le_refl _) _⟩
end Go.Proofs.YtedhbbjlbgpafaaGreatDoor
namespace Go.Proofs.YtedhbbjlbgpafaaGreatDoor
open Go.RowKit Go.Shelf
attribute [local go_sem] eqNil neqNil
def biasOf(E:Int):Int:=2^(E-1).toNat-1
theorem bias_range{E:Int}(h0:2≤E)(h1:E≤11):1≤biasOf E∧biasOf E≤1023:=by
 unfold biasOf
 rcases(show E=2∨E=3∨E=4∨E=5∨E=6∨E=7∨E=8∨E=9∨E=10∨E=11 by omega)with rfl|rfl|rfl|rfl|rfl|rfl|rfl|rfl|rfl|rfl<;>decide
theorem bias_any(w:World)(E P m:Int)(h0:2≤E)(h1:E≤11):Calls Tryz.prog 175 #[.agg #[.int .i64 E,.int .i64 P,.int .i64 m]] w fun e w'=>e=.returned (.int .i64 (biasOf E))∧w'=w.alloc (.cells #[.int .i64 E,.int .i64 P,.int .i64 m] 70):=by
 rcases(show E=2∨E=3∨E=4∨E=5∨E=6∨E=7∨E=8∨E=9∨E=10∨E=11 by omega)with rfl|rfl|rfl|rfl|rfl|rfl|rfl|rfl|rfl|rfl
 all_goals
  go_enter Tryz.func175,Tryz.ntmps175
  go_wp2
  go_ret
  exact⟨rfl,rfl⟩
theorem lowest_any(w:World)(E P m:Int)(h0:2≤E)(h1:E≤11):Calls Tryz.prog 179 #[.agg #[.int .i64 E,.int .i64 P,.int .i64 m]] w (IntPost w (1-biasOf E)):=by
 have hb:=bias_range h0 h1
 have hc:=fun W=>bias_any W E P m h0 h1
 generalize biasOf E=q at hb hc⊢
 obtain⟨hb1,hb2⟩:=hb
 have HC:=Lib.hid hc
 clear hc
 go_enter Tryz.func179,Tryz.ntmps179
 go_wp2_with (go_at_call 175;refine(HC.out _).mono ?_;rintro en w' ⟨rfl,rfl⟩)
 go_ret
 exact⟨rfl,below2 _ _ _⟩
theorem lowest_range{E:Int}(h0:2≤E)(h1:E≤11): -1022≤1-biasOf E∧1-biasOf E≤0:=by have:=bias_range h0 h1;omega
theorem finest_any(w:World)(E P m:Int)(h0:2≤E)(h1:E≤11)(h2:2≤P)(h3:P≤113):Calls Tryz.prog 229 #[.agg #[.int .i64 E,.int .i64 P,.int .i64 m]] w (IntPost w (1-biasOf E-P+1)):=by
 have hb:=lowest_range h0 h1
 have hc: ∀W,Below w.heap.size w W∧Box W w.heap.size #[.int .i64 E,.int .i64 P,.int .i64 m]→Calls Tryz.prog 179 #[.agg #[.int .i64 E,.int .i64 P,.int .i64 m]] W fun en w'=>en=.returned (.int .i64 (1-biasOf E))∧Hid (Below w.heap.size w w')∧(∀q,w'.cell? ⟨w.heap.size,q,none⟩=(#[.int .i64 E,.int .i64 P,.int .i64 m]:Array Value)[q]?):=fun W hW=>by
  refine(lowest_any W E P m h0 h1).mono ?_
  rintro en w' ⟨rfl,hb⟩
  exact⟨rfl,Lib.hid (hW.1.trans (hb.mono hW.1.size)),(hW.2.below hb).cell⟩
 generalize 1-biasOf E=q at hb hc⊢
 obtain⟨hb1,hb2⟩:=hb
 have HC:=Lib.hid hc
 clear hc
 have x1:IntKind.i64.wrap (q-P)=q-P:=IntWalk.i64_in _ (by omega)
 have x2:IntKind.i64.wrap (q-P+1)=q-P+1:=IntWalk.i64_in _ (by omega)
 go_enter Tryz.func229,Tryz.ntmps229
 go_wp2_with fail
 have hA:=Box.new w #[.int .i64 E,.int .i64 P,.int .i64 m] 70
 have hW0:Below w.heap.size w (w.alloc (.cells #[.int .i64 E,.int .i64 P,.int .i64 m] 70)):=(Below.refl _ _).alloc (Nat.le_refl _) _
 generalize hW:w.alloc (.cells #[.int .i64 E,.int .i64 P,.int .i64 m] 70)=W at hA hW0⊢
 clear hW
 have cA:=hA.cell
 have HD:Hid (Below w.heap.size w W.drew∧Box W.drew w.heap.size #[.int .i64 E,.int .i64 P,.int .i64 m]):=Lib.hid ⟨hW0.trans ((Drw.step W 1).below _),hA.below ((Drw.step W 1).below _)⟩
 clear hA hW0
 generalize hg:w.heap.size=g at*
 have HG:=Lib.hid hg
 clear hg
 go_region_with (go_at_call 179;refine(HC.out _ HD.out).mono ?_;rintro en w1 ⟨rfl,H1,cA1⟩)
 all_goals
  go_wp2_with fail
  go_ret
  exact⟨rfl,by rw[HG.out];exact H1.out⟩
theorem boxes2n(w:World)(A B:Array Value)(T U:TypeId):Hid (Two w ((w.alloc (.cells A T)).alloc (.cells B U)) w.heap.size A B):=Lib.hid (by
 obtain⟨a,b,c⟩:=boxes2' w A B T U
 exact⟨c,a,b⟩)
theorem shifted_any(w:World)(v:Value)(K k d:Int)(h:Dn w v K k)(hK: -sml<K∧K<sml)(hk: -50000≤k∧k≤50000)(hd: -20000≤d∧d≤20000):
 Calls Tryz.prog 162 #[v,.int .i64 d] w (DnPost w K (k+d)):=by
 obtain⟨s,t,e,h1,h2⟩:=h
 obtain⟨b0,b1,b2⟩:=h2.bounds hK hk
 have n0:=h1
 obtain⟨bo,la,ca,rfl,ht⟩:=h1.nilb
 have h3:Dr s t (if t=0 then e else e+d) K (k+d):=by
  rcases h2 with⟨rfl,rfl,rfl,rfl⟩|⟨x1,hp,j,rfl,rfl⟩
  ·exact .inl ⟨rfl,rfl,rfl,rfl⟩
  ·rw[if_neg (by omega)]
   exact .inr ⟨x1,hp,j,by omega,rfl⟩
 have HS:Hid (∀W,Below w.heap.size w W→Calls Tryz.prog 223 #[.agg #[.bool s,.slice bo la ca,.slice none 0 0,.int .i64 e],.int .i64 d] W (NmErrPost W s t 1 (if t=0 then e else e+d) 0)):=Lib.hid (fun W hb=>shift_any W _ s t 1 e d (n0.below hb) hd.1 hd.2 b0 b1)
 generalize (if t=0 then e else e+d)=q at HS h3
 have H3:=Lib.hid h3
 clear h1 h2 h3 n0 ht b0 b1 b2 hK hk hd
 go_enter Tryz.func162,Tryz.ntmps162
 go_wp2_with fail
 have HT:=boxes2n w #[.bool s,.slice bo la ca,.slice none 0 0,.int .i64 e] #[.bool false,.slice none 0 0,.slice none 0 0,.int .i64 0] 51 51
 refine(HS.out _ HT.out.1).mono ?_
 rintro en w1 ⟨v1,rfl,hv,hb⟩
 obtain⟨o,l,c,o2,l2,c2,rfl,hv1,hv2⟩:=hv.ex
 have HV:=Lib.hid hv
 have HT1:=Lib.hid (HT.out.next hb)
 clear hb hv hv1 hv2
 have cB:=HT1.out.2.2.cell
 have fB:=HT1.out.2.2.free
 have lB:=HT1.out.2.2.lt
 go_wp2_with fail
 refine bodyPost_ret (v:=.agg #[.bool s,.slice o l c,.slice o2 l2 c2,.int .i64 q]) (by simp[results,Tryz.results162,go_sem,cB,lB]) rfl ?_
 have ho:=Stored.only (w.heap.size+1) w1 s o l c o2 l2 c2 q
 have hn:=HV.out.only ho HT1.out.2.2.noW
 have hb1:Below w.heap.size w (Stored (w.heap.size+1) w1 s o l c o2 l2 c2 q):=HT1.out.1.trans (ho.below HT1.out.1.size (by omega))
 exact⟨_,rfl,⟨s,t,q,hn.below ((Below.refl _ _).alloc (Nat.le_refl _) _),H3.out⟩,hb1.alloc hb1.size _⟩
theorem power_any(w:World)(hE:Env w)(d:Int)(hd: -20000≤d∧d≤20000):
 Calls Tryz.prog 190 #[.int .i64 d] w (DnPost w 1 d):=by
 have HE:=Lib.hid hE
 have HD:=Lib.hid hd
 clear hE hd
 have hs:(1:Int)<sml:=by unfold sml;exact Int.lt_of_lt_of_le (show(1:Int)<2^1 by decide) (by
  rw[show 60000=1+59999 from rfl,Int.pow_add]
  have:=Int.mul_le_mul_of_nonneg_left (show(1:Int)≤2^59999 from p2pos _) (show(0:Int)≤2^1 by decide)
  omega)
 have HS:=Lib.hid hs
 clear hs
 have HB0:Hid (Below w.heap.size w (w.alloc (.cells #[.bool false,.slice none 0 0,.slice none 0 0,.int .i64 0] 51))):=Lib.hid ((Below.refl _ _).alloc (Nat.le_refl _) _)
 go_enter Tryz.func190,Tryz.ntmps190
 go_wp2_with fail
 refine(int_any _ (HE.out.below HB0.out) 1 (by omega) (by omega)).mono ?_
 rintro en w1 ⟨v1,rfl,hv,hb⟩
 have HV:=Lib.hid hv
 have HB1:=Lib.hid hb
 clear hv hb
 go_wp2_with fail
 refine(shifted_any w1 v1 1 0 d HV.out ⟨by have:=HS.out;omega,HS.out⟩ (by omega) HD.out).mono ?_
 rintro en w2 ⟨v2,rfl,hv,hb⟩
 rw[Int.zero_add]at hv
 obtain⟨s,o,l,c,o2,l2,c2,q,rfl⟩:=hv.shape
 obtain⟨hc,hf,hz,hbw⟩:=laid_facts (HB1.out.trans (hb.mono HB1.out.size))
 have HN:=Lib.hid (noW_num hc)
 have HV2:=Lib.hid hv
 have HB2:=Lib.hid hbw
 clear hv hb hbw
 go_wp2_with fail
 refine bodyPost_ret (v:=.agg #[.bool s,.slice o l c,.slice o2 l2 c2,.int .i64 q]) (by simp[results,Tryz.results190,go_sem,hc,hz]) rfl ?_
 have ho:=Stored.only w.heap.size w2 s o l c o2 l2 c2 q
 exact⟨_,rfl,HV2.out.only ho HN.out,HB2.out.trans (ho.below HB2.out.size (Nat.le_refl _))⟩
end Go.Proofs.YtedhbbjlbgpafaaGreatDoor
namespace Go.Proofs.YtedhbbjlbgpafaaGreatDoor
open Go.RowKit Go.Shelf
attribute [local go_sem] eqNil neqNil
theorem p2_mod{k:Nat}(h:k≤127):(2:Int)^k%two128=2^k:=by
 refine Int.emod_eq_of_lt (Int.le_of_lt (p2pos k)) ?_
 unfold two128
 obtain⟨d,hd⟩: ∃d,128=k+(d+1):=⟨127-k,by omega⟩
 rw[hd,Int.pow_add,Int.pow_succ]
 have h2:=Int.mul_le_mul_of_nonneg_left (show(1:Int)≤2^d from p2pos d) (Int.le_of_lt (p2pos k))
 have h3:(2:Int)^k*(2^d*2)=2^k*2^d*2:=by grind
 have:=p2pos k
 omega
theorem p2_le{a b:Nat}(h:a≤b):(2:Int)^a≤2^b:=by
 obtain⟨d,rfl⟩:=Nat.exists_eq_add_of_le h
 rw[Int.pow_add]
 have:=Int.mul_le_mul_of_nonneg_left (show(1:Int)≤2^d from p2pos d) (Int.le_of_lt (p2pos a))
 omega
theorem p2_lt128{k:Nat}(h:k≤127):(2:Int)^k<two128:=by rw[←p2_mod h];exact Int.emod_lt_of_pos _ (by rw[two128_eq];omega)
def infOf(E P:Int):Int:=2^(E+P-1).toNat-2^(P-1).toNat
theorem inf_range{E P:Int}(h:Fmt E P):0<infOf E P∧infOf E P<2^(E+P-1).toNat∧infOf E P<two128:=by
 obtain⟨h1,h2,h3,h4,h5⟩:=h
 unfold infOf
 have a:=p2_lt128 (k:=(E+P-1).toNat) (by omega)
 have b:=p2pos (P-1).toNat
 have c:=p2_le (a:=(P-1).toNat+1) (b:=(E+P-1).toNat) (by omega)
 rw[Int.pow_succ]at c
 omega
theorem infinity_any(w:World)(E P m:Int)(h:Fmt E P):Calls Tryz.prog 83 #[.agg #[.int .i64 E,.int .i64 P,.int .i64 m]] w (WPost w (infOf E P)):=by
 have HX:Hid ((2^(E+P-1).toNat-2^(P-1).toNat)%two128=infOf E P):=Lib.hid (by
  have:=inf_range h
  exact Int.emod_eq_of_lt (by unfold infOf at this;omega) this.2.2)
 obtain⟨h1,h2,h3,h4,h5⟩:=h
 have x1:IntKind.i64.wrap (E+P)=E+P:=IntWalk.i64_in _ (by omega)
 have x2:IntKind.i64.wrap (E+P-1)=E+P-1:=IntWalk.i64_in _ (by omega)
 have x3:IntKind.i64.wrap (P-1)=P-1:=IntWalk.i64_in _ (by omega)
 go_enter Tryz.func83,Tryz.ntmps83
 go_wp2_with fail
 obtain⟨hA,hB,hW0⟩:=boxes2' w #[.int .i64 E,.int .i64 P,.int .i64 m] #[.int .u64 0,.int .u64 0] 70 26
 generalize hW:(w.alloc (.cells #[.int .i64 E,.int .i64 P,.int .i64 m] 70)).alloc (.cells #[.int .u64 0,.int .u64 0] 26)=W at hA hB hW0⊢
 clear hW
 have H0:Hid (Two w W.drew w.heap.size #[.int .i64 E,.int .i64 P,.int .i64 m] #[.int .u64 0,.int .u64 0]):=Lib.hid ⟨hW0.trans ((Drw.step W 1).below _),hA.below ((Drw.step W 1).below _),hB.below ((Drw.step W 1).below _)⟩
 have c0:W.cell? ⟨w.heap.size,0,none⟩=some (.int .i64 E):=hA.cell 0
 have c1:W.cell? ⟨w.heap.size,1,none⟩=some (.int .i64 P):=hA.cell 1
 clear hA hB hW0
 generalize hg:w.heap.size=g at*
 have HG:=Lib.hid hg
 clear hg
 have step: ∀(W1 W2:World),Two w W1 g #[.int .i64 E,.int .i64 P,.int .i64 m] #[.int .u64 0,.int .u64 0]→Below W1.heap.size W1 W2→Hid (Two w W2 g #[.int .i64 E,.int .i64 P,.int .i64 m] #[.int .u64 0,.int .u64 0])∧W2.cell? ⟨g,0,none⟩=some (.int .i64 E)∧W2.cell? ⟨g,1,none⟩=some (.int .i64 P):=fun W1 W2 a b=>
  ⟨Lib.hid (a.next b),(a.next b).2.1.cell 0,(a.next b).2.1.cell 1⟩
 have HSt:=Lib.hid step
 have K1:Hid (∀W1,Calls Tryz.prog 142 #[.int .i64 (E+P-1)] W1 (WPost W1 (2^(E+P-1).toNat))):=Lib.hid fun W1=>bit_any W1 _ (by omega) (by omega)
 have K2:Hid (∀W1,Calls Tryz.prog 142 #[.int .i64 (P-1)] W1 (WPost W1 (2^(P-1).toNat))):=Lib.hid fun W1=>bit_any W1 _ (by omega) (by omega)
 clear step
 go_region_held3 (fun w'=>w'.cell? ⟨g,0,none⟩=some (.int .i64 E)∧w'.cell? ⟨g,1,none⟩=some (.int .i64 P)) (first|go_keep|exact⟨by assumption,by assumption⟩)
  (first
   |(go_at_call 142;(with_reducible refine(K1.out _).mono ?_);rintro en w1 ⟨a1,b1,rfl,W1,hb1⟩;obtain⟨H1,d10,d11⟩:=HSt.out _ _ H0.out hb1;clear hb1)
   |(go_at_call 142;(with_reducible refine(K2.out _).mono ?_);rintro en w2 ⟨a2,b2,rfl,W2,hb2⟩;obtain⟨H2,d20,d21⟩:=HSt.out _ _ H1.out hb2;clear hb2)
   |(go_at_call 146;refine(minus_any _ _ _ _ _ _ _ W1 W2).mono ?_;rintro en w3 ⟨a3,b3,rfl,W3,hb3⟩;obtain⟨H3,d30,d31⟩:=HSt.out _ _ H2.out hb3;have cB:=H3.out.2.2.cell;have fB:=H3.out.2.2.free;clear hb3))
 have lB:=H3.out.2.2.lt
 have W4:=Lib.hid (HX.out▸W3)
 clear W1 W2 W3 d10 d11 d20 d21 d30 d31
 go_wp2_with fail
 refine bodyPost_ret (v:=.agg #[.int .u64 a3,.int .u64 b3]) (by simp[results,Tryz.results83,go_sem,cB,lB]) rfl ?_
 have ho:=stored2 (g+1) w3 (.int .u64 a3) (.int .u64 b3)
 exact⟨a3,b3,rfl,W4.out,H3.out.1.trans (ho.below H3.out.1.size (by have:=HG.out;omega))⟩
def quietOf(E P:Int):Int:=infOf E P+2^(P-2).toNat
theorem quiet_range{E P:Int}(h:Fmt E P):infOf E P<quietOf E P∧quietOf E P<2^(E+P-1).toNat∧quietOf E P<two128:=by
 have hi:=inf_range h
 obtain⟨h1,h2,h3,h4,h5⟩:=h
 unfold quietOf
 have b:=p2pos (P-2).toNat
 have c:=p2_le (a:=(P-2).toNat+1) (b:=(P-1).toNat) (by omega)
 rw[Int.pow_succ]at c
 have a:=p2_lt128 (k:=(E+P-1).toNat) (by omega)
 unfold infOf at*
 omega
theorem quiet_any(w:World)(E P m:Int)(h:Fmt E P):Calls Tryz.prog 140 #[.agg #[.int .i64 E,.int .i64 P,.int .i64 m]] w (WPost w (quietOf E P)):=by
 have HX:Hid ((infOf E P+2^(P-2).toNat)%two128=quietOf E P):=Lib.hid (by
  have:=quiet_range h
  have:=inf_range h
  have:=p2pos (P-2).toNat
  exact Int.emod_eq_of_lt (by omega) (by unfold quietOf at*;omega))
 have K1:Hid (∀W1,Calls Tryz.prog 83 #[.agg #[.int .i64 E,.int .i64 P,.int .i64 m]] W1 (WPost W1 (infOf E P))):=Lib.hid fun W1=>infinity_any W1 E P m h
 obtain⟨h1,h2,h3,h4,h5⟩:=h
 have x3:IntKind.i64.wrap (P-2)=P-2:=IntWalk.i64_in _ (by omega)
 go_enter Tryz.func140,Tryz.ntmps140
 go_wp2_with fail
 obtain⟨hA,hB,hW0⟩:=boxes2' w #[.int .i64 E,.int .i64 P,.int .i64 m] #[.int .u64 0,.int .u64 0] 70 26
 generalize hW:(w.alloc (.cells #[.int .i64 E,.int .i64 P,.int .i64 m] 70)).alloc (.cells #[.int .u64 0,.int .u64 0] 26)=W at hA hB hW0⊢
 clear hW
 have H0:Hid (Two w W.drew w.heap.size #[.int .i64 E,.int .i64 P,.int .i64 m] #[.int .u64 0,.int .u64 0]):=Lib.hid ⟨hW0.trans ((Drw.step W 1).below _),hA.below ((Drw.step W 1).below _),hB.below ((Drw.step W 1).below _)⟩
 have c0:W.cell? ⟨w.heap.size,0,none⟩=some (.int .i64 E):=hA.cell 0
 have c1:W.cell? ⟨w.heap.size,1,none⟩=some (.int .i64 P):=hA.cell 1
 have c2:W.cell? ⟨w.heap.size,2,none⟩=some (.int .i64 m):=hA.cell 2
 clear hA hB hW0
 generalize hg:w.heap.size=g at*
 have HG:=Lib.hid hg
 clear hg
 have step: ∀(W1 W2:World),Two w W1 g #[.int .i64 E,.int .i64 P,.int .i64 m] #[.int .u64 0,.int .u64 0]→Below W1.heap.size W1 W2→Hid (Two w W2 g #[.int .i64 E,.int .i64 P,.int .i64 m] #[.int .u64 0,.int .u64 0])∧W2.cell? ⟨g,0,none⟩=some (.int .i64 E)∧W2.cell? ⟨g,1,none⟩=some (.int .i64 P)∧W2.cell? ⟨g,2,none⟩=some (.int .i64 m):=fun W1 W2 a b=>
  ⟨Lib.hid (a.next b),(a.next b).2.1.cell 0,(a.next b).2.1.cell 1,(a.next b).2.1.cell 2⟩
 have HSt:=Lib.hid step
 have K2:Hid (∀W1,Calls Tryz.prog 142 #[.int .i64 (P-2)] W1 (WPost W1 (2^(P-2).toNat))):=Lib.hid fun W1=>bit_any W1 _ (by omega) (by omega)
 clear step
 go_region_held3 (fun w'=>w'.cell? ⟨g,0,none⟩=some (.int .i64 E)∧w'.cell? ⟨g,1,none⟩=some (.int .i64 P)∧w'.cell? ⟨g,2,none⟩=some (.int .i64 m)) (first|go_keep|exact⟨by assumption,by assumption,by assumption⟩)
  (first
   |(go_at_call 83;refine(K1.out _).mono ?_;rintro en w1 ⟨a1,b1,rfl,W1,hb1⟩;obtain⟨H1,d10,d11,d12⟩:=HSt.out _ _ H0.out hb1;clear hb1)
   |(go_at_call 142;refine(K2.out _).mono ?_;rintro en w2 ⟨a2,b2,rfl,W2,hb2⟩;obtain⟨H2,d20,d21,d22⟩:=HSt.out _ _ H1.out hb2;clear hb2)
   |(go_at_call 141;refine(plus_any _ _ _ _ _ _ _ W1 W2).mono ?_;rintro en w3 ⟨a3,b3,rfl,W3,hb3⟩;obtain⟨H3,d30,d31,d32⟩:=HSt.out _ _ H2.out hb3;have cB:=H3.out.2.2.cell;have fB:=H3.out.2.2.free;clear hb3))
 have lB:=H3.out.2.2.lt
 have W4:=Lib.hid (HX.out▸W3)
 clear W1 W2 W3 d10 d11 d12 d20 d21 d22 d30 d31 d32
 go_wp2_with fail
 refine bodyPost_ret (v:=.agg #[.int .u64 a3,.int .u64 b3]) (by simp[results,Tryz.results140,go_sem,cB,lB]) rfl ?_
 have ho:=stored2 (g+1) w3 (.int .u64 a3) (.int .u64 b3)
 exact⟨a3,b3,rfl,W4.out,H3.out.1.trans (ho.below H3.out.1.size (by have:=HG.out;omega))⟩
end Go.Proofs.YtedhbbjlbgpafaaGreatDoor
namespace Go.Proofs.YtedhbbjlbgpafaaGreatDoor
open Go.RowKit Go.Shelf
attribute [local go_sem] eqNil neqNil
def Three(w W:World)(g:Nat)(A B C:Array Value):Prop:=Below w.heap.size w W∧Box W g A∧Box W (g+1) B∧Box W (g+1+1) C
theorem Three.next{w W W':World}{g:Nat}{A B C:Array Value}(h:Three w W g A B C)(hb:Below W.heap.size W W'):Three w W' g A B C:=⟨h.1.trans (hb.mono h.1.size),h.2.1.below hb,h.2.2.1.below hb,h.2.2.2.below hb⟩
theorem boxes3'(w:World)(A B C:Array Value)(T U V:TypeId):Three w (((w.alloc (.cells A T)).alloc (.cells B U)).alloc (.cells C V)) w.heap.size A B C:=by
 refine⟨(((Below.refl _ _).alloc (Nat.le_refl _) _).alloc (by simp) _).alloc (by simp;omega) _,((Box.new w A T).alloc _).alloc _,?_,?_⟩
 ·have:=(Box.new (w.alloc (.cells A T)) B U).alloc (.cells C V)
  rwa [World.size_alloc]at this
 ·have:=Box.new ((w.alloc (.cells A T)).alloc (.cells B U)) C V
  rwa [World.size_alloc,World.size_alloc]at this
def signOf(E P:Int):Int:=2^(E+P-1).toNat
theorem sign_range{E P:Int}(h:Fmt E P):0<signOf E P∧2*signOf E P<two128:=by
 obtain⟨h1,h2,h3,h4,h5⟩:=h
 unfold signOf
 have a:=p2_lt128 (k:=(E+P-1).toNat+1) (by omega)
 rw[Int.pow_succ]at a
 have:=p2pos (E+P-1).toNat
 omega
theorem signed_no(w:World)(E P m h l:Int):
 Calls Tryz.prog 69 #[.agg #[.int .i64 E,.int .i64 P,.int .i64 m],.bool false,.agg #[.int .u64 h,.int .u64 l]] w fun e w'=>e=.returned (.agg #[.int .u64 h,.int .u64 l])∧Below w.heap.size w w':=by
 go_enter Tryz.func69,Tryz.ntmps69
 go_wp2
 refine bodyPost_ret (v:=.agg #[.int .u64 h,.int .u64 l]) (by simp[results,Tryz.results69,go_sem]) rfl ?_
 exact⟨rfl,below3 _ _ _ _⟩
theorem signed_yes(w:World)(E P m h l X:Int)(hf:Fmt E P)(hw:Wn h l X)(hX:X<signOf E P):
 Calls Tryz.prog 69 #[.agg #[.int .i64 E,.int .i64 P,.int .i64 m],.bool true,.agg #[.int .u64 h,.int .u64 l]] w (WPost w (X+signOf E P)):=by
 have HX:Hid ((X+2^(E+P-1).toNat)%two128=X+signOf E P):=Lib.hid (by
  have:=sign_range hf
  have:=hw.range
  exact Int.emod_eq_of_lt (by unfold signOf at*;omega) (by unfold signOf at*;omega))
 obtain⟨h1,h2,h3,h4,h5⟩:=hf
 have HWn:=Lib.hid hw
 clear hw hX
 have x1:IntKind.i64.wrap (E+P)=E+P:=IntWalk.i64_in _ (by omega)
 have x2:IntKind.i64.wrap (E+P-1)=E+P-1:=IntWalk.i64_in _ (by omega)
 go_enter Tryz.func69,Tryz.ntmps69
 go_wp2_with fail
 have hT:=boxes3' w #[.int .i64 E,.int .i64 P,.int .i64 m] #[.int .u64 h,.int .u64 l] #[.int .u64 0,.int .u64 0] 70 26 26
 generalize hW:((w.alloc (.cells #[.int .i64 E,.int .i64 P,.int .i64 m] 70)).alloc (.cells #[.int .u64 h,.int .u64 l] 26)).alloc (.cells #[.int .u64 0,.int .u64 0] 26)=W at hT⊢
 clear hW
 have H0:Hid (Three w W.drew w.heap.size #[.int .i64 E,.int .i64 P,.int .i64 m] #[.int .u64 h,.int .u64 l] #[.int .u64 0,.int .u64 0]):=Lib.hid (hT.next ((Drw.step W 1).below _))
 have c0:W.cell? ⟨w.heap.size,0,none⟩=some (.int .i64 E):=hT.2.1.cell 0
 have c1:W.cell? ⟨w.heap.size,1,none⟩=some (.int .i64 P):=hT.2.1.cell 1
 have c2:W.cell? ⟨w.heap.size+1,0,none⟩=some (.int .u64 h):=hT.2.2.1.cell 0
 have c3:W.cell? ⟨w.heap.size+1,1,none⟩=some (.int .u64 l):=hT.2.2.1.cell 1
 clear hT
 generalize hg:w.heap.size=g at*
 have HG:=Lib.hid hg
 clear hg
 have step: ∀(W1 W2:World),Three w W1 g #[.int .i64 E,.int .i64 P,.int .i64 m] #[.int .u64 h,.int .u64 l] #[.int .u64 0,.int .u64 0]→Below W1.heap.size W1 W2→Hid (Three w W2 g #[.int .i64 E,.int .i64 P,.int .i64 m] #[.int .u64 h,.int .u64 l] #[.int .u64 0,.int .u64 0])∧W2.cell? ⟨g,0,none⟩=some (.int .i64 E)∧W2.cell? ⟨g,1,none⟩=some (.int .i64 P)∧W2.cell? ⟨g+1,0,none⟩=some (.int .u64 h)∧W2.cell? ⟨g+1,1,none⟩=some (.int .u64 l):=fun W1 W2 a b=>
  ⟨Lib.hid (a.next b),(a.next b).2.1.cell 0,(a.next b).2.1.cell 1,(a.next b).2.2.1.cell 0,(a.next b).2.2.1.cell 1⟩
 have HSt:=Lib.hid step
 have K1:Hid (∀W1,Calls Tryz.prog 142 #[.int .i64 (E+P-1)] W1 (WPost W1 (2^(E+P-1).toNat))):=Lib.hid fun W1=>bit_any W1 _ (by omega) (by omega)
 clear step
 go_region_held3 (fun w'=>w'.cell? ⟨g,0,none⟩=some (.int .i64 E)∧w'.cell? ⟨g,1,none⟩=some (.int .i64 P)∧w'.cell? ⟨g+1,0,none⟩=some (.int .u64 h)∧w'.cell? ⟨g+1,1,none⟩=some (.int .u64 l)) (first|exact⟨by assumption,by assumption,by assumption,by assumption⟩|(simp[go_sem, *];done)|go_keep)
  (first
   |(go_at_call 142;refine(K1.out _).mono ?_;rintro en w1 ⟨a1,b1,rfl,W1,hb1⟩;obtain⟨H1,d10,d11,d12,d13⟩:=HSt.out _ _ H0.out hb1;clear hb1)
   |(go_at_call 141;refine(plus_any _ _ _ _ _ _ _ HWn.out W1).mono ?_;rintro en w3 ⟨a3,b3,rfl,W3,hb3⟩;obtain⟨H3,d30,d31,d32,d33⟩:=HSt.out _ _ H1.out hb3;have cB:=H3.out.2.2.2.cell;have fB:=H3.out.2.2.2.free;clear hb3))
 have lB:=H3.out.2.2.2.lt
 have W4:=Lib.hid (HX.out▸W3)
 clear W1 W3 d10 d11 d12 d13 d30 d31 d32 d33
 go_wp2_with fail
 refine bodyPost_ret (v:=.agg #[.int .u64 a3,.int .u64 b3]) (by simp[results,Tryz.results69,go_sem,cB,lB]) rfl ?_
 have ho:=stored2 (g+1+1) w3 (.int .u64 a3) (.int .u64 b3)
 exact⟨a3,b3,rfl,W4.out,H3.out.1.trans (ho.below H3.out.1.size (by have:=HG.out;omega))⟩
def UnPost(w:World)(neg:Bool)(X:Int)(e:Ending)(w':World):Prop:= ∃h l,e=.returned (.tuple #[.bool neg,.agg #[.int .u64 h,.int .u64 l]])∧Wn h l X∧Below w.heap.size w w'
theorem unsigned_pos(w:World)(E P m h l X:Int)(hf:Fmt E P)(hw:Wn h l X)(hX:X<signOf E P):
 Calls Tryz.prog 138 #[.agg #[.int .i64 E,.int .i64 P,.int .i64 m],.agg #[.int .u64 h,.int .u64 l]] w (UnPost w false X):=by
 have HWn:=Lib.hid hw
 have hd:decide (X<signOf E P)=true:=by simpa using hX
 have HDc:=Lib.hid hd
 obtain⟨h1,h2,h3,h4,h5⟩:=hf
 have K1:Hid (∀W1,Calls Tryz.prog 142 #[.int .i64 (E+P-1)] W1 (WPost W1 (signOf E P))):=Lib.hid fun W1=>bit_any W1 _ (by omega) (by omega)
 clear hw hX hd
 have x1:IntKind.i64.wrap (E+P)=E+P:=IntWalk.i64_in _ (by omega)
 have x2:IntKind.i64.wrap (E+P-1)=E+P-1:=IntWalk.i64_in _ (by omega)
 go_enter Tryz.func138,Tryz.ntmps138
 go_wp2_with fail
 have HT:Hid (Three w _ w.heap.size _ _ _):=Lib.hid (boxes3' w #[.int .i64 E,.int .i64 P,.int .i64 m] #[.int .u64 h,.int .u64 l] #[.int .u64 0,.int .u64 0] 70 26 26)
 refine(K1.out _).mono ?_
 rintro en w1 ⟨a1,b1,rfl,W1,hb⟩
 have HT1:=Lib.hid (HT.out.next hb)
 have HW1:=Lib.hid W1
 clear hb W1
 have cA:=HT1.out.2.2.1.cell
 have lA:=HT1.out.2.2.1.lt
 go_wp2_with fail
 have hl:=less_any (w1.alloc (.cells #[.int .u64 a1,.int .u64 b1] 26)) h l X a1 b1 (signOf E P) HWn.out HW1.out
 rw[HDc.out]at hl
 refine hl.mono ?_
 rintro en w2 ⟨rfl,hb⟩
 have HT2:=Lib.hid ((HT1.out.next ((Below.refl _ _).alloc (Nat.le_refl _) _)).next hb)
 clear hl hb cA lA
 have cA:=HT2.out.2.2.1.cell
 have cC:=HT2.out.2.2.2.cell
 have fC:=HT2.out.2.2.2.free
 have lC:=HT2.out.2.2.2.lt
 generalize hg:w.heap.size=g at*
 have HG:=Lib.hid hg
 clear hg
 go_wp2_with fail
 go_region
 go_wp2_with fail
 refine bodyPost_ret (v:=.tuple #[.bool false,.agg #[.int .u64 h,.int .u64 l]]) (by simp[results,Tryz.results138,go_sem,cC,lC]) rfl ?_
 have ho:=stored2 (g+1+1) w2.drew (.int .u64 h) (.int .u64 l)
 have hbb:Below w.heap.size w w2.drew:=HT2.out.1.trans ((Drw.step w2 1).below _)
 exact⟨h,l,rfl,HWn.out,hbb.trans (ho.below hbb.size (by have:=HG.out;omega))⟩
theorem unsigned_neg(w:World)(E P m h l X:Int)(hf:Fmt E P)(hw:Wn h l X)(hX:signOf E P≤X):
 Calls Tryz.prog 138 #[.agg #[.int .i64 E,.int .i64 P,.int .i64 m],.agg #[.int .u64 h,.int .u64 l]] w (UnPost w true (X-signOf E P)):=by
 have HWn:=Lib.hid hw
 have hd:decide (X<signOf E P)=false:=by simp;omega
 have HDc:=Lib.hid hd
 have HX:Hid ((X-signOf E P)%two128=X-signOf E P):=Lib.hid (by
  have:=sign_range hf
  have:=hw.range
  exact Int.emod_eq_of_lt (by omega) (by omega))
 obtain⟨h1,h2,h3,h4,h5⟩:=hf
 have K1:Hid (∀W1,Calls Tryz.prog 142 #[.int .i64 (E+P-1)] W1 (WPost W1 (signOf E P))):=Lib.hid fun W1=>bit_any W1 _ (by omega) (by omega)
 clear hw hX hd
 have x1:IntKind.i64.wrap (E+P)=E+P:=IntWalk.i64_in _ (by omega)
 have x2:IntKind.i64.wrap (E+P-1)=E+P-1:=IntWalk.i64_in _ (by omega)
 go_enter Tryz.func138,Tryz.ntmps138
 go_wp2_with fail
 have HT:Hid (Three w _ w.heap.size _ _ _):=Lib.hid (boxes3' w #[.int .i64 E,.int .i64 P,.int .i64 m] #[.int .u64 h,.int .u64 l] #[.int .u64 0,.int .u64 0] 70 26 26)
 refine(K1.out _).mono ?_
 rintro en w1 ⟨a1,b1,rfl,W1,hb⟩
 have HT1:=Lib.hid (HT.out.next hb)
 have HW1:=Lib.hid W1
 clear hb W1
 have cA:=HT1.out.2.2.1.cell
 have lA:=HT1.out.2.2.1.lt
 go_wp2_with fail
 have hl:=less_any (w1.alloc (.cells #[.int .u64 a1,.int .u64 b1] 26)) h l X a1 b1 (signOf E P) HWn.out HW1.out
 rw[HDc.out]at hl
 refine hl.mono ?_
 rintro en w2 ⟨rfl,hb⟩
 have HT2:=Lib.hid ((HT1.out.next ((Below.refl _ _).alloc (Nat.le_refl _) _)).next hb)
 have HS2:=Lib.hid ((Box.new w1 #[.int .u64 a1,.int .u64 b1] 26).below hb)
 clear hl hb cA lA
 have cA:=HT2.out.2.2.1.cell
 have cS:=HS2.out.cell
 go_wp2_with fail
 refine(minus_any w2 h l X a1 b1 (signOf E P) HWn.out HW1.out).mono ?_
 rintro en w3 ⟨a3,b3,rfl,W3,hb⟩
 have HT3:=Lib.hid (HT2.out.next hb)
 have HW3:=Lib.hid (HX.out▸W3)
 clear hb W3 cA cS
 have cC:=HT3.out.2.2.2.cell
 have fC:=HT3.out.2.2.2.free
 have lC:=HT3.out.2.2.2.lt
 generalize hg:w.heap.size=g at*
 have HG:=Lib.hid hg
 clear hg
 go_wp2_with fail
 refine bodyPost_ret (v:=.tuple #[.bool true,.agg #[.int .u64 a3,.int .u64 b3]]) (by simp[results,Tryz.results138,go_sem,cC,lC]) rfl ?_
 have ho:=stored2 (g+1+1) w3 (.int .u64 a3) (.int .u64 b3)
 exact⟨a3,b3,rfl,HW3.out,HT3.out.1.trans (ho.below HT3.out.1.size (by have:=HG.out;omega))⟩
end Go.Proofs.YtedhbbjlbgpafaaGreatDoor
namespace Go.Proofs.YtedhbbjlbgpafaaGreatDoor
open Go.RowKit Go.Shelf
attribute [local go_sem] eqNil neqNil
theorem fieldLo(w:World)(a b:Int):(Instr.field 26 (.agg #[.int .u64 a,.int .u64 b]) 1).run Tryz.prog w=.ok (.int .u64 b) w:=by kernel_rfl
attribute [local go_sem] fieldLo
theorem and_mask(x:Int)(h0:0≤x)(h1:x<18446744073709551616):bits .and .u64 x 4611686018427387903=x%4611686018427387904:=by
 obtain⟨x,rfl⟩:=Int.eq_ofNat_of_zero_le h0
 have h:=bits_and_u64_nat x 4611686018427387903 (by omega) (by omega)
 have e:x&&&4611686018427387903=x%4611686018427387904:=Nat.and_two_pow_sub_one_eq_mod x 62
 rw[e]at h
 exact h
theorem lo62{h l X:Int}(a:Wn h l X)(hX:X<2^124):Wn h l X∧0≤X/2^62∧X/2^62<2^62∧X=X/2^62*2^62+l%4611686018427387904:=by
 have b:=a
 obtain⟨a1,a2,a3,a4,rfl⟩:=a
 have e:(2:Int)^62=4611686018427387904:=rfl
 have e2:(2:Int)^124=4611686018427387904*4611686018427387904:=rfl
 rw[e2]at hX
 rw[e]
 exact⟨b,by omega,by omega,by omega⟩
theorem sml62:(2:Int)^130<sml:=by
 unfold sml
 rw[show 60000=130+(1+59869)from rfl,Int.pow_add,Int.pow_add]
 have h1:=p2pos 130
 have h2:=Int.mul_le_mul_of_nonneg_left (show(1:Int)≤2^59869 from p2pos _) (show(0:Int)≤2^1 by decide)
 have h3:=Int.mul_le_mul_of_nonneg_left (show(2:Int)≤2^1*2^59869 by omega) (Int.le_of_lt h1)
 omega
theorem toNum_low(w:World)(hE:Env w)(h l X:Int)(a:Wn h l X)(hX:X<4611686018427387904):Calls Tryz.prog 161 #[.agg #[.int .u64 h,.int .u64 l]] w (DnPost w X 0):=by
 have HE:=Lib.hid hE
 have HWn:=Lib.hid a
 obtain⟨a1,a2,a3,a4,a5⟩:=a
 have hm:=and_mask l a3 a4
 have hlX:Hid (l%4611686018427387904=X):=Lib.hid (by omega)
 rw[hlX.out]at hm
 have c1:IntKind.i64.wrap X=X:=IntWalk.i64_in _ (by omega)
 have HX:Hid (0≤X∧X<4611686018427387904):=Lib.hid (by omega)
 have hr:Hid (∀W1,Calls Tryz.prog 143 #[.agg #[.int .u64 h,.int .u64 l],.int .i64 62] W1 (WPost W1 0)):=Lib.hid (fun W1=>by
  have:=wright_any W1 h l X HWn.out 62 (by omega)
  rwa [show X/2^62=0 from Int.ediv_eq_zero_of_lt HX.out.1 HX.out.2]at this)
 clear hE a5 hX
 go_enter Tryz.func161,Tryz.ntmps161
 go_wp2_with fail
 have HT:=boxes2n w #[.int .u64 h,.int .u64 l] #[.bool false,.slice none 0 0,.slice none 0 0,.int .i64 0] 26 51
 refine(int_any _ (HE.out.below HT.out.1) X (by have:=HX.out;omega) (by have:=HX.out;omega)).mono ?_
 rintro en w1 ⟨v1,rfl,hv,hb⟩
 obtain⟨s,o,lx,c,o2,l2,c2,q,rfl⟩:=hv.shape
 have HT1:=Lib.hid (HT.out.next hb)
 have HV:=Lib.hid hv
 clear hb hv
 have cA:=HT1.out.2.1.cell
 have lA:=HT1.out.2.1.lt
 go_wp2_with fail
 refine(hr.out _).mono ?_
 rintro en w2 ⟨h3,l3,rfl,W3,hb⟩
 have HT2:=Lib.hid ((HT1.out.next ((Below.refl _ _).alloc (Nat.le_refl _) _)).next hb)
 have HS2:=Lib.hid ((Box.new w1 #[.bool s,.slice o lx c,.slice o2 l2 c2,.int .i64 q] 51).below hb)
 have HV2:=Lib.hid ((HV.out.below ((Below.refl _ _).alloc (Nat.le_refl _) _)).below hb)
 obtain⟨q1,q2,q3,q4,q5⟩:=W3
 obtain rfl:l3=0:=by omega
 clear hb cA lA q1 q2 q3 q4 q5
 have cS:=HS2.out.cell
 have cC:=HT2.out.2.2.cell
 have fC:=HT2.out.2.2.free
 have lC:=HT2.out.2.2.lt
 generalize hg:w.heap.size=g at*
 have HG:=Lib.hid hg
 clear hg
 go_wp2_with fail
 refine bodyPost_ret (v:=.agg #[.bool s,.slice o lx c,.slice o2 l2 c2,.int .i64 q]) (by simp[results,Tryz.results161,go_sem,cC,lC]) rfl ?_
 have ho:=Stored.only (g+1) w2 s o lx c o2 l2 c2 q
 exact⟨_,rfl,HV2.out.only ho HT2.out.2.2.noW,HT2.out.1.trans (ho.below HT2.out.1.size (by have:=HG.out;omega))⟩
theorem toNum_high(w:World)(hE:Env w)(h l X:Int)(a:Wn h l X)(hX:X<2^124)(hX0:4611686018427387904≤X):Calls Tryz.prog 161 #[.agg #[.int .u64 h,.int .u64 l]] w (DnPost w X 0):=by
 have HE:=Lib.hid hE
 have HWn:=Lib.hid a
 obtain⟨_,y0,y1,y2⟩:=lo62 a hX
 obtain⟨a1,a2,a3,a4,a5⟩:=a
 have hm:=and_mask l a3 a4
 obtain⟨lo,hlo⟩: ∃r,l%4611686018427387904=r:=⟨_,rfl⟩
 obtain⟨Y,hY⟩: ∃r,X/2^62=r:=⟨_,rfl⟩
 rw[hlo]at hm y2
 rw[hY]at y0 y1 y2
 have hlo0:0≤lo∧lo<4611686018427387904:=by omega
 rw[show(2:Int)^62=4611686018427387904 from rfl]at y1 y2
 have HX:Hid (0≤lo∧lo<4611686018427387904∧0<Y∧Y<4611686018427387904∧X=Y*4611686018427387904+lo):=Lib.hid ⟨hlo0.1,hlo0.2,by omega,y1,y2⟩
 have hr:Hid (∀W1,Calls Tryz.prog 143 #[.agg #[.int .u64 h,.int .u64 l],.int .i64 62] W1 (WPost W1 Y)):=Lib.hid (fun W1=>by
  have:=wright_any W1 h l X HWn.out 62 (by omega)
  rwa [hY]at this)
 have c1:IntKind.i64.wrap lo=lo:=IntWalk.i64_in _ (by omega)
 have c2:IntKind.i64.wrap Y=Y:=IntWalk.i64_in _ (by omega)
 have hne:(Y==0)=false:=by simp;have:=HX.out;omega
 clear hE a5 hX hX0 hlo hY y0 y1 y2 hlo0
 go_enter Tryz.func161,Tryz.ntmps161
 go_wp2_with fail
 have HT:=boxes2n w #[.int .u64 h,.int .u64 l] #[.bool false,.slice none 0 0,.slice none 0 0,.int .i64 0] 26 51
 refine(int_any _ (HE.out.below HT.out.1) lo (by have:=HX.out;omega) (by have:=HX.out;omega)).mono ?_
 rintro en w1 ⟨v1,rfl,hv,hb⟩
 obtain⟨s,o,lx,c,o2,l2,c2',q,rfl⟩:=hv.shape
 have HT1:=Lib.hid (HT.out.next hb)
 have HV:=Lib.hid hv
 clear hb hv
 have cA:=HT1.out.2.1.cell
 have lA:=HT1.out.2.1.lt
 go_wp2_with fail
 refine(hr.out _).mono ?_
 rintro en w2 ⟨h3,l3,rfl,W3,hb⟩
 have HT2:=Lib.hid ((HT1.out.next ((Below.refl _ _).alloc (Nat.le_refl _) _)).next hb)
 have HS2:=Lib.hid ((Box.new w1 #[.bool s,.slice o lx c,.slice o2 l2 c2',.int .i64 q] 51).below hb)
 have HV2:=Lib.hid ((HV.out.below ((Below.refl _ _).alloc (Nat.le_refl _) _)).below hb)
 obtain⟨q1,q2,q3,q4,q5⟩:=W3
 obtain rfl:Y=l3:=by have:=HX.out;omega
 clear hb cA lA q1 q2 q3 q4 q5
 generalize hg:w.heap.size=g at*
 have HG:=Lib.hid hg
 clear hg
 have hne1: ¬g+1=w1.heap.size:=by have:=HT1.out.2.2.lt;omega
 have hne2: ¬w1.heap.size=g+1:=by omega
 generalize hgs:w1.heap.size=gs at*
 clear hgs
 go_wp2_with fail
 have d0:w2.cell? ⟨gs,0,none⟩=some (.bool s):=HS2.out.cell 0
 have d1:w2.cell? ⟨gs,1,none⟩=some (.slice o lx c):=HS2.out.cell 1
 have d2:w2.cell? ⟨gs,2,none⟩=some (.slice o2 l2 c2'):=HS2.out.cell 2
 have d3:w2.cell? ⟨gs,3,none⟩=some (.int .i64 q):=HS2.out.cell 3
 have H0:Hid (Two w w2.drew g #[.int .u64 h,.int .u64 l] #[.bool false,.slice none 0 0,.slice none 0 0,.int .i64 0]∧Box w2.drew gs #[.bool s,.slice o lx c,.slice o2 l2 c2',.int .i64 q]∧Dn w2.drew (.agg #[.bool s,.slice o lx c,.slice o2 l2 c2',.int .i64 q]) lo 0):=Lib.hid ⟨HT2.out.next ((Drw.step w2 1).below _),HS2.out.below ((Drw.step w2 1).below _),HV2.out.below ((Drw.step w2 1).below _)⟩
 have step: ∀(W1 W2:World),Hid (Two w W1 g #[.int .u64 h,.int .u64 l] #[.bool false,.slice none 0 0,.slice none 0 0,.int .i64 0]∧Box W1 gs #[.bool s,.slice o lx c,.slice o2 l2 c2',.int .i64 q]∧Dn W1 (.agg #[.bool s,.slice o lx c,.slice o2 l2 c2',.int .i64 q]) lo 0)→Below W1.heap.size W1 W2→Hid (Two w W2 g #[.int .u64 h,.int .u64 l] #[.bool false,.slice none 0 0,.slice none 0 0,.int .i64 0]∧Box W2 gs #[.bool s,.slice o lx c,.slice o2 l2 c2',.int .i64 q]∧Dn W2 (.agg #[.bool s,.slice o lx c,.slice o2 l2 c2',.int .i64 q]) lo 0)∧W2.cell? ⟨gs,0,none⟩=some (.bool s)∧W2.cell? ⟨gs,1,none⟩=some (.slice o lx c)∧W2.cell? ⟨gs,2,none⟩=some (.slice o2 l2 c2')∧W2.cell? ⟨gs,3,none⟩=some (.int .i64 q):=fun W1 W2 a b=>
  ⟨Lib.hid ⟨a.out.1.next b,a.out.2.1.below b,a.out.2.2.below b⟩,(a.out.2.1.below b).cell 0,(a.out.2.1.below b).cell 1,(a.out.2.1.below b).cell 2,(a.out.2.1.below b).cell 3⟩
 have HSt:=Lib.hid step
 clear step HT2 HS2 HV2
 have hY:Hid (-sml<Y∧Y<sml∧ -sml<Y*4611686018427387904∧Y*4611686018427387904<sml∧ -sml<lo∧lo<sml):=Lib.hid (by
  have h1:=sml62
  rw[show(2:Int)^130=1361129467683753853853498429727072845824 from rfl]at h1
  have:=HX.out
  omega)
 have KS:Hid (∀(W1:World) (v:Value),Hid (Dn W1 v Y 0)→Calls Tryz.prog 162 #[v,.int .i64 62] W1 (DnPost W1 (Y*4611686018427387904) 0)):=Lib.hid (fun W1 v hv=>by
  refine(shifted_any W1 v Y 0 62 hv.out ⟨hY.out.1,hY.out.2.1⟩ (by omega) (by omega)).mono ?_
  rintro en w' ⟨v',rfl,hv',hb⟩
  have hv2:=hv'.scale 62
  rw[show(0:Int)+62-((62:Nat):Int)=0 by omega,show(2:Int)^62=4611686018427387904 from rfl]at hv2
  exact⟨v',rfl,hv2,hb⟩)
 have KA:Hid (∀(W1:World) (v:Value),Hid (Dn W1 v (Y*4611686018427387904) 0)→Hid (Two w W1 g #[.int .u64 h,.int .u64 l] #[.bool false,.slice none 0 0,.slice none 0 0,.int .i64 0]∧Box W1 gs #[.bool s,.slice o lx c,.slice o2 l2 c2',.int .i64 q]∧Dn W1 (.agg #[.bool s,.slice o lx c,.slice o2 l2 c2',.int .i64 q]) lo 0)→Calls Tryz.prog 79 #[v,.agg #[.bool s,.slice o lx c,.slice o2 l2 c2',.int .i64 q]] W1 (DnPost W1 X 0)):=Lib.hid (fun W1 v hv hH=>by
  have:=add_any W1 (HE.out.below hH.out.1.1) v _ (Y*4611686018427387904) lo 0 hv.out hH.out.2.2 ⟨hY.out.2.2.1,hY.out.2.2.2.1⟩ ⟨hY.out.2.2.2.2.1,hY.out.2.2.2.2.2⟩ (by omega)
  rwa [←HX.out.2.2.2.2]at this)
 go_region_held3 (fun w'=>w'.cell? ⟨gs,0,none⟩=some (.bool s)∧w'.cell? ⟨gs,1,none⟩=some (.slice o lx c)∧w'.cell? ⟨gs,2,none⟩=some (.slice o2 l2 c2')∧w'.cell? ⟨gs,3,none⟩=some (.int .i64 q)) (first|(simp[go_sem,hne1,hne2,e30,e31,e32,e33];done)|exact⟨e30,e31,e32,e33⟩|exact⟨e20,e21,e22,e23⟩|exact⟨e10,e11,e12,e13⟩|exact⟨d0,d1,d2,d3⟩)
  (first
   |(go_at_call 80;refine(int_any _ (HE.out.below H0.out.1.1) Y (by have:=HX.out;omega) (by have:=HX.out;omega)).mono ?_;rintro en w3 ⟨v3,rfl,hv,hb⟩;obtain⟨s3,o3,l3',c3,o32,l32,c32,q3,rfl⟩:=hv.shape;obtain⟨H1,e10,e11,e12,e13⟩:=HSt.out _ _ H0 hb;have V1:=Lib.hid hv;clear hv hb)
   |(go_at_call 162;(with_reducible refine(KS.out _ _ V1).mono ?_);rintro en w4 ⟨v4,rfl,hv,hb⟩;obtain⟨s4,o4,l4,c4,o42,l42,c42,q4,rfl⟩:=hv.shape;obtain⟨H2,e20,e21,e22,e23⟩:=HSt.out _ _ H1 hb;have V2:=Lib.hid hv;clear hv hb)
   |(go_at_call 79;(with_reducible refine(KA.out _ _ V2 H2).mono ?_);rintro en w5 ⟨v5,rfl,hv,hb⟩;obtain⟨s5,o5,l5,c5,o52,l52,c52,q5,rfl⟩:=hv.shape;obtain⟨H3,e30,e31,e32,e33⟩:=HSt.out _ _ H2 hb;have cC:=H3.out.1.2.2.cell;have fC:=H3.out.1.2.2.free;have V3:=Lib.hid hv;clear hv hb))
 have lC:=H3.out.1.2.2.lt
 clear e10 e11 e12 e13 e20 e21 e22 e23 e30 e31 e32 e33
 go_wp2_with fail
 refine bodyPost_ret (v:=.agg #[.bool s5,.slice o5 l5 c5,.slice o52 l52 c52,.int .i64 q5]) (by simp[results,Tryz.results161,go_sem,cC,lC]) rfl ?_
 have ho:=Stored.only (g+1) w5 s5 o5 l5 c5 o52 l52 c52 q5
 have hn:=V3.out.only ho H3.out.1.2.2.noW
 exact⟨_,rfl,hn,H3.out.1.1.trans (ho.below H3.out.1.1.size (by have:=HG.out;omega))⟩
theorem toNum_any(w:World)(hE:Env w)(h l X:Int)(a:Wn h l X)(hX:X<2^124):Calls Tryz.prog 161 #[.agg #[.int .u64 h,.int .u64 l]] w (DnPost w X 0):=by
 by_cases h0:X<4611686018427387904
 ·exact toNum_low w hE h l X a h0
 ·exact toNum_high w hE h l X a hX (by omega)
end Go.Proofs.YtedhbbjlbgpafaaGreatDoor
namespace Go.Proofs.YtedhbbjlbgpafaaGreatDoor
open Go.RowKit Go.Shelf
attribute [local go_sem] eqNil neqNil
theorem toWord_small(w:World)(v:Value)(K:Int)(h:Dn w v K 0)(h0:0≤K)(hK:K<9223372036854775808):Calls Tryz.prog 84 #[v] w (WPost w K):=by
 have hs:K<sml:=by
  have:=sml62
  rw[show(2:Int)^130=1361129467683753853853498429727072845824 from rfl]at this
  omega
 obtain⟨s,o,l,c,o2,l2,c2,q,rfl⟩:=h.shape
 have hi:Hid (∀W,Below w.heap.size w W→Calls Tryz.prog 81 #[.agg #[.bool s,.slice o l c,.slice o2 l2 c2,.int .i64 q]] W (TwoPost W K 0)):=Lib.hid (fun W hb=>(int64_any W _ K (h.below hb) h0 hs).1 hK)
 have HW:Hid (Wn 0 K K):=Lib.hid ⟨by omega,by omega,h0,by omega,by omega⟩
 have x1:IntKind.u64.wrap K=K:=by rw[IntKind.wrap_u64];omega
 clear h hs h0 hK
 go_enter Tryz.func84,Tryz.ntmps84
 go_wp2_with fail
 have HT:=boxes2n w #[.bool s,.slice o l c,.slice o2 l2 c2,.int .i64 q] #[.int .u64 0,.int .u64 0] 51 26
 refine(hi.out _ HT.out.1).mono ?_
 rintro en w1 ⟨rfl,hb⟩
 have HT1:=Lib.hid (HT.out.next hb)
 clear hb
 have cC:=HT1.out.2.2.cell
 have fC:=HT1.out.2.2.free
 have lC:=HT1.out.2.2.lt
 go_wp2_with fail
 refine bodyPost_ret (v:=.agg #[.int .u64 0,.int .u64 K]) (by simp[results,Tryz.results84,go_sem,cC,lC]) rfl ?_
 have ho:=stored2 (w.heap.size+1) w1 (.int .u64 0) (.int .u64 K)
 exact⟨0,K,rfl,HW.out,HT1.out.1.trans (ho.below HT1.out.1.size (by omega))⟩
end Go.Proofs.YtedhbbjlbgpafaaGreatDoor
namespace Go.Proofs.YtedhbbjlbgpafaaGreatDoor
open Go.RowKit Go.Shelf
def Lo(w:World)(gl:Nat)(a b c d:Value):Prop:=w.cell? ⟨gl,0,none⟩=some a∧w.cell? ⟨gl,1,none⟩=some b∧w.cell? ⟨gl,2,none⟩=some c∧w.cell? ⟨gl,3,none⟩=some d∧gl<w.heap.size
theorem Lo.next{w w':World}{gl:Nat}{a b c d:Value}(h:Lo w gl a b c d)(hb:Below w.heap.size w w'):Lo w' gl a b c d:=
 ⟨(hb.cell h.2.2.2.2).trans h.1,(hb.cell h.2.2.2.2).trans h.2.1,(hb.cell h.2.2.2.2).trans h.2.2.1,(hb.cell h.2.2.2.2).trans h.2.2.2.1,Nat.lt_of_lt_of_le h.2.2.2.2 hb.size⟩
theorem Box.under{w w':World}{g B:Nat}{A:Array Value}(h:Box w g A)(hb:Below B w w')(hg:g<B):Box w' g A:=
 ⟨fun o=>(hb.cell (p:=⟨g,o,none⟩) hg).trans (h.cell o),fun o=>(hb.frozen (p:=⟨g,o,none⟩) hg).trans (h.free o),Nat.lt_of_lt_of_le h.lt hb.size⟩
theorem lowIn{w:World}{g gs gl:Nat}{A B C:Array Value}{vn vh:Value}{K H L:Int}(w5:World){s5:Bool}{o5:Option Addr}{l5 c5:Nat}{o52:Option Addr}{l52 c52:Nat}{q5:Int}
 (hgl:gs<gl) (hgg:g+1<gs) (hw:w.heap.size=g)
 (h2:Hid (Two w w5 g A B∧Box w5 gs C∧Dn w5 vn K 0∧Dn w5 vh H 0)) (hx:Hid (Box w5 gl #[.bool false,.slice none 0 0,.slice none 0 0,.int .i64 0]))
 (hv:Hid (Dn w5 (.agg #[.bool s5,.slice o5 l5 c5,.slice o52 l52 c52,.int .i64 q5]) L 0)):
 Hid (Two w ((((w5.setCell ⟨gl,0,none⟩ (.bool s5)).setCell ⟨gl,1,none⟩ (.slice o5 l5 c5)).setCell ⟨gl,2,none⟩ (.slice o52 l52 c52)).setCell ⟨gl,3,none⟩ (.int .i64 q5)) g A B∧
  Box ((((w5.setCell ⟨gl,0,none⟩ (.bool s5)).setCell ⟨gl,1,none⟩ (.slice o5 l5 c5)).setCell ⟨gl,2,none⟩ (.slice o52 l52 c52)).setCell ⟨gl,3,none⟩ (.int .i64 q5)) gs C∧
  Lo ((((w5.setCell ⟨gl,0,none⟩ (.bool s5)).setCell ⟨gl,1,none⟩ (.slice o5 l5 c5)).setCell ⟨gl,2,none⟩ (.slice o52 l52 c52)).setCell ⟨gl,3,none⟩ (.int .i64 q5)) gl (.bool s5) (.slice o5 l5 c5) (.slice o52 l52 c52) (.int .i64 q5)∧
  Dn ((((w5.setCell ⟨gl,0,none⟩ (.bool s5)).setCell ⟨gl,1,none⟩ (.slice o5 l5 c5)).setCell ⟨gl,2,none⟩ (.slice o52 l52 c52)).setCell ⟨gl,3,none⟩ (.int .i64 q5)) vh H 0∧
  Dn ((((w5.setCell ⟨gl,0,none⟩ (.bool s5)).setCell ⟨gl,1,none⟩ (.slice o5 l5 c5)).setCell ⟨gl,2,none⟩ (.slice o52 l52 c52)).setCell ⟨gl,3,none⟩ (.int .i64 q5)) (.agg #[.bool s5,.slice o5 l5 c5,.slice o52 l52 c52,.int .i64 q5]) L 0):=by
 have ho:Only gl w5 _:=Stored.only gl w5 s5 o5 l5 c5 o52 l52 c52 q5
 have X:=hx.out
 have hb:=ho.below (Nat.le_of_lt X.lt) (Nat.le_refl _)
 obtain⟨⟨t1,t2,t3⟩,b2,d2,e2⟩:=h2.out
 have cB:=X.cell
 have lB:=X.lt
 refine Lib.hid ⟨⟨t1.trans (ho.below t1.size (by omega)),t2.under hb (by omega),t3.under hb (by omega)⟩,b2.under hb hgl,?_,e2.only ho X.noW,hv.out.only ho X.noW⟩
 refine⟨?_,?_,?_,?_,Nat.lt_of_lt_of_le lB hb.size⟩<;>simp[go_sem,cB,lB]
theorem lowNew{w:World}{g gs gl:Nat}{A B C:Array Value}{vn vh:Value}{K H L:Int}(w5:World){s5:Bool}{o5:Option Addr}{l5 c5:Nat}{o52:Option Addr}{l52 c52:Nat}{q5:Int}(T:TypeId)(hg:w5.heap.size=gl)
 (h2:Hid (Two w w5 g A B∧Box w5 gs C∧Dn w5 vn K 0∧Dn w5 vh H 0))
 (hv:Hid (Dn w5 (.agg #[.bool s5,.slice o5 l5 c5,.slice o52 l52 c52,.int .i64 q5]) L 0)):
 Hid (Two w (w5.alloc (.cells #[.bool s5,.slice o5 l5 c5,.slice o52 l52 c52,.int .i64 q5] T)) g A B∧
  Box (w5.alloc (.cells #[.bool s5,.slice o5 l5 c5,.slice o52 l52 c52,.int .i64 q5] T)) gs C∧
  Lo (w5.alloc (.cells #[.bool s5,.slice o5 l5 c5,.slice o52 l52 c52,.int .i64 q5] T)) gl (.bool s5) (.slice o5 l5 c5) (.slice o52 l52 c52) (.int .i64 q5)∧
  Dn (w5.alloc (.cells #[.bool s5,.slice o5 l5 c5,.slice o52 l52 c52,.int .i64 q5] T)) vh H 0∧
  Dn (w5.alloc (.cells #[.bool s5,.slice o5 l5 c5,.slice o52 l52 c52,.int .i64 q5] T)) (.agg #[.bool s5,.slice o5 l5 c5,.slice o52 l52 c52,.int .i64 q5]) L 0):=by
 subst hg
 have hb:Below w5.heap.size w5 (w5.alloc (.cells #[.bool s5,.slice o5 l5 c5,.slice o52 l52 c52,.int .i64 q5] T)):=(Below.refl _ _).alloc (Nat.le_refl _) _
 have hn:=Box.new w5 #[.bool s5,.slice o5 l5 c5,.slice o52 l52 c52,.int .i64 q5] T
 exact Lib.hid ⟨h2.out.1.next hb,h2.out.2.1.below hb,⟨hn.cell 0,hn.cell 1,hn.cell 2,hn.cell 3,hn.lt⟩,h2.out.2.2.2.below hb,hv.out.below hb⟩
def Qr(s:Bool)(t b e K D k:Int):Prop:=
 0<D∧((t=0∧s=false∧b=1∧e=0∧K=0)∨(t%2=1∧0<t∧b%2=1∧0<b∧Int.gcd t b=1∧ ∃i j:Nat,e-i=k-j∧sg s t*2^i*D=K*2^j*b))
def Qn(w:World)(v:Value)(K D k:Int):Prop:= ∃s t b e,Nm w v s t b e∧Qr s t b e K D k
theorem Qr.neg{s:Bool}{t b e K D k:Int}(h:Qr s t b e K D k):s=decide (K<0):=by
 obtain⟨hD,h⟩:=h
 rcases h with⟨_,rfl,_,_,rfl⟩|⟨_,t0,_,pb,_,i,j,_,hk⟩
 ·rfl
 ·have hp:0<t*2^i*D:=Int.mul_pos (Int.mul_pos t0 (p2pos i)) hD
  have hq:0<2^j*b:=Int.mul_pos (p2pos j) pb
  rw[Int.mul_assoc K]at hk
  cases s
  ·have e:sg false t=t:=rfl
   rw[e]at hk
   have: ¬K<0:=fun h=>by
    have:=Int.mul_neg_of_neg_of_pos h hq
    omega
   simp[this]
  ·have e:sg true t*2^i*D= -(t*2^i*D):=by
    show(-t)*2^i*D=_
    rw[Int.neg_mul,Int.neg_mul]
   rw[e]at hk
   have:K<0:=by
    apply Classical.byContradiction
    intro h
    have:=Int.mul_nonneg (show 0≤K by omega) (Int.le_of_lt hq)
    omega
   simp[this]
def txS(s:Bool)(t b e:Int):List UInt8:=
 if t=0 then [48]else(if s=true then [45]else [])++Lib.decDigits (t*2^e.toNat).toNat++(if b*2^(-e).toNat=1 then []else 47::Lib.decDigits (b*2^(-e).toNat).toNat)
end Go.Proofs.YtedhbbjlbgpafaaGreatDoor
