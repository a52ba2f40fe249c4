/-
  Part of a proof. No conditions.
-/
import Derived.Test.YtnapiakfbihnjaaGreatDoorProg
import Derived.WalkKit
import Derived.WalkSpells
import Derived.Lib.Hide
import Derived.Shelf.Spec.TrailingZeros
import Derived.Deep.Draws
import Derived.WalkSmall
import Derived.Shelf.Spec.BitsCarry
import Derived.Shelf.Small.Bits
import Derived.Shelf.Small.Wraps
import Derived.Shelf.Bits.Mul64
import Derived.Deep.QuietTactic
import Derived.BigQuiet
import Derived.OwnWalk
import Derived.OneCell
import Derived.StillTailTactics
import Derived.Laws.Bits64
import Derived.Laws.Bits64b
import Derived.IntWalk
import Derived.Laws.CopyOwn
import Derived.Lib.SmallJoins
import Derived.Lib.LazyBuf
set_option linter.unusedVariables false
set_option linter.unusedSimpArgs false
set_option maxRecDepth 1000000
set_option maxHeartbeats 1000000
namespace Go.Proofs.YtnapiakfbihnjaaGreatDoor
def pw:Int:=18446744073709551616
theorem LC:pw=18446744073709551616:=rfl
theorem lX:0<pw:=by decide
def nv:List Int→Int
 |[]=>0
 |z::zs=>z+pw*nv zs
def Wd(zs:List Int):Prop:= ∀z∈zs,0≤z∧z<pw
theorem qR:Wd []:=fun _ h=>by cases h
theorem oI{z:Int}{zs:List Int}:Wd (z::zs)↔(0≤z∧z<pw)∧Wd zs:=by
 unfold Wd;simp
theorem oL{a b:List Int}:Wd (a++b)↔Wd a∧Wd b:=by
 unfold Wd;constructor
 ·intro h;exact⟨fun z hz=>h z (by simp[hz]),fun z hz=>h z (by simp[hz])⟩
 ·intro h z hz;rcases List.mem_append.1 hz with hz|hz
  ·exact h.1 z hz
  ·exact h.2 z hz
theorem mi(a b:List Int):nv (a++b)=nv a+pw^a.length*nv b:=by
 induction a with
 |nil=>simp[nv]
 |cons z zs ih=>simp only[List.cons_append,nv,ih,List.length_cons,Int.pow_succ];grind
theorem dw{zs:List Int}(h:Wd zs):0≤nv zs:=by
 induction zs with
 |nil=>simp[nv]
 |cons z zs ih=>
  have h':=oI.1 h
  have:=ih h'.2
  have:=Int.mul_nonneg (Int.le_of_lt lX) this
  simp only[nv];omega
theorem ji(n:Nat):0<pw^n:=Int.pow_pos lX
theorem bT{a b:Nat}(h:a≤b):pw^a≤pw^b:=by
 obtain⟨c,rfl⟩:=Nat.exists_eq_add_of_le h
 rw[Int.pow_add]
 have h1:1≤pw^c:=ji c
 have:=Int.mul_le_mul_of_nonneg_left h1 (Int.le_of_lt (ji a))
 omega
theorem jb{zs:List Int}(h:Wd zs):nv zs<pw^zs.length:=by
 induction zs with
 |nil=>simp[nv]
 |cons z zs ih=>
  have h':=oI.1 h
  have i1:=ih h'.2
  simp only[nv,List.length_cons,Int.pow_succ]
  have:pw*nv zs≤pw*(pw^zs.length-1):=Int.mul_le_mul_of_nonneg_left (by omega) (Int.le_of_lt lX)
  have:pw*(pw^zs.length-1)=pw^zs.length*pw-pw:=by grind
  omega
def gd(zs:List Int)(n:Nat):Int:=zs.getD n 0
theorem gK{zs:List Int}{n:Nat}(h:n<zs.length):gd zs n=zs[n]:=by simp[gd,h]
theorem iL{zs:List Int}{n:Nat}(h:zs.length≤n):gd zs n=0:=by simp[gd,h]
theorem kP(z:Int)(zs:List Int):gd (z::zs) 0=z:=by simp[gd]
theorem lJ(z:Int)(zs:List Int)(n:Nat):gd (z::zs) (n+1)=gd zs n:=by simp[gd]
theorem oO{zs:List Int}{j:Nat}{x:Int}(h:j<zs.length):gd (zs.set j x) j=x:=by simp[gd,h]
theorem fD{zs:List Int}{i j:Nat}{x:Int}(h:i≠j):gd (zs.set j x) i=gd zs i:=by simp[gd,Ne.symm h]
theorem lV(zs:List Int)(j:Nat)(x:Int)(h:j<zs.length):nv (zs.set j x)=nv zs+pw^j*(x-gd zs j):=by
 induction zs generalizing j with
 |nil=>simp at h
 |cons z zs ih=>
  cases j with
  |zero=>simp[nv,kP];grind
  |succ j=>
   have:=ih j (by simpa using h)
   simp only[List.set_cons_succ,nv,this,lJ,Int.pow_succ];grind
theorem jY{zs:List Int}{j:Nat}{x:Int}(h:Wd zs)(hx:0≤x∧x<pw):Wd (zs.set j x):=by
 intro z hz
 rcases List.mem_or_eq_of_mem_set hz with h1|h1
 ·exact h z h1
 ·exact h1▸hx
theorem nZ{zs:List Int}(h:Wd zs)(j:Nat):0≤gd zs j∧gd zs j<pw:=by
 by_cases hj:j<zs.length
 ·rw[gK hj];exact h _ (List.getElem_mem hj)
 ·rw[iL (by omega)];exact⟨by omega,lX⟩
theorem eP{zs:List Int}(h:Wd zs)(n:Nat):Wd (zs.take n):=fun z hz=>h z (List.mem_of_mem_take hz)
theorem kU{zs:List Int}(h:Wd zs)(n:Nat):Wd (zs.drop n):=fun z hz=>h z (List.mem_of_mem_drop hz)
theorem iU(n:Nat):nv (List.replicate n 0)=0:=by
 induction n with
 |zero=>rfl
 |succ n ih=>simp[List.replicate_succ,nv,ih]
theorem fA(n:Nat):Wd (List.replicate n 0):=by
 intro z hz;have:=(List.mem_replicate.1 hz).2;subst this;exact⟨by omega,lX⟩
theorem jP(zs:List Int)(n:Nat)(h:n<zs.length):nv (zs.take (n+1))=nv (zs.take n)+pw^n*gd zs n:=by
 rw[List.take_succ_eq_append_getElem h,mi]
 simp[nv,List.length_take,Nat.min_eq_left (Nat.le_of_lt h),gK h]
theorem gy(zs:List Int)(n:Nat)(h:n≤zs.length):nv zs=nv (zs.take n)+pw^n*nv (zs.drop n):=by
 conv=>lhs;rw[←List.take_append_drop n zs]
 rw[mi];simp[List.length_take,Nat.min_eq_left h]
theorem anL{zs:List Int}(h:Wd zs)(h0:nv zs=0): ∀z∈zs,z=0:=by
 induction zs with
 |nil=>intro z hz;cases hz
 |cons z zs ih=>
  have h':=oI.1 h
  have n0:=dw h'.2
  simp only[nv]at h0
  have:=Int.mul_nonneg (Int.le_of_lt lX) n0
  have hz:z=0:=by omega
  have:pw*nv zs=0:=by omega
  have:nv zs=0:=by
   rcases Int.mul_eq_zero.1 this with h|h
   ·exact absurd h (by decide)
   ·exact h
  intro y hy
  rcases List.mem_cons.1 hy with h|h
  ·exact h.trans hz
  ·exact ih h'.2 this y h
def Can(zs:List Int):Prop:=zs≠ []→gd zs (zs.length-1)≠0
theorem tq{zs:List Int}(h:Wd zs)(hc:Can zs)(hne:zs≠ []):pw^(zs.length-1)≤nv zs:=by
 have hl:0<zs.length:=List.length_pos_iff.2 hne
 have:=gy zs (zs.length-1) (by omega)
 have h1:=dw (eP h (zs.length-1))
 have h2:zs.drop (zs.length-1)=[gd zs (zs.length-1)]:=by
  rw[List.drop_eq_getElem_cons (by omega),List.drop_eq_nil_of_le (by omega),gK (by omega)]
 rw[h2]at this
 have h3:=hc hne
 have h4:=nZ h (zs.length-1)
 simp only[nv]at this
 have:pw^(zs.length-1)*1≤pw^(zs.length-1)*gd zs (zs.length-1):=Int.mul_le_mul_of_nonneg_left (by omega) (Int.le_of_lt (ji _))
 grind
theorem GH{zs:List Int}(h:Wd zs)(hc:Can zs)(hne:zs≠ []):0<nv zs:=Int.lt_of_lt_of_le (ji _) (tq h hc hne)
end Go.Proofs.YtnapiakfbihnjaaGreatDoor
namespace Go.Proofs.YtnapiakfbihnjaaGreatDoor
open Go.RowKit
theorem h_{p:Prop}(h:p):Hid p:=h
def Row(w:World)(b off:Nat)(zs:List Int):Prop:= ∀i,i<zs.length→w.cell? ⟨b,off+i,none⟩=some (.int .u64 (gd zs i))
def Ty(w:World)(b:Nat):Prop:= ∃c f,w.heap[b]?=some (.cells c 24 f)
theorem Ty.below{w w':World}{b:Nat}(h:Ty w b)(hb:b<w.heap.size)(hw:Below w.heap.size w w'):Ty w' b:=by
 obtain⟨c,f,h⟩:=h
 exact⟨c,f,(hw.block b hb).trans h⟩
structure Ns(w:World)(b off cap:Nat)(zs:List Int)(n:Int):Prop where
 cap:zs.length≤cap
 pos:0<zs.length
 lt:b<w.heap.size
 wd:Wd zs
 top:gd zs (zs.length-1)≠0
 val:nv zs=n
 row:Row w b off zs
 ty:Ty w b
def Nt(w:World)(v:Value)(n:Int):Prop:=
 (v=.slice none 0 0∧n=0)∨ ∃(b off cap:Nat) (zs:List Int),v=.slice (some ⟨b,off,none⟩) zs.length cap∧Ns w b off cap zs n
theorem Row.below{w w':World}{b off:Nat}{zs:List Int}(h:Row w b off zs)(hb:b<w.heap.size)(hw:Below w.heap.size w w'):Row w' b off zs:=
 fun i hi=>(hw.cell (p:=⟨b,off+i,none⟩) hb).trans (h i hi)
theorem Ns.below{w w':World}{b off cap:Nat}{zs:List Int}{n:Int}(h:Ns w b off cap zs n)(hw:Below w.heap.size w w'):Ns w' b off cap zs n:=
 {h with lt:=Nat.lt_of_lt_of_le h.lt hw.size,row:=h.row.below h.lt hw,ty:=h.ty.below h.lt hw}
theorem Nt.below{w w':World}{v:Value}{n:Int}(h:Nt w v n)(hw:Below w.heap.size w w'):Nt w' v n:=by
 rcases h with h|⟨b,off,cap,zs,e,h⟩
 ·exact .inl h
 ·exact .inr ⟨b,off,cap,zs,e,h.below hw⟩
theorem Ns.nt{w:World}{b off cap:Nat}{zs:List Int}{n:Int}(h:Ns w b off cap zs n):Nt w (.slice (some ⟨b,off,none⟩) zs.length cap) n:=.inr ⟨b,off,cap,zs,rfl,h⟩
theorem Nt.zero(w:World):Nt w (.slice none 0 0) 0:=.inl ⟨rfl,rfl⟩
theorem Ns.can{w:World}{b off cap:Nat}{zs:List Int}{n:Int}(h:Ns w b off cap zs n):Can zs:=fun _=>h.top
theorem Ns.ne{w:World}{b off cap:Nat}{zs:List Int}{n:Int}(h:Ns w b off cap zs n):zs≠ []:=List.ne_nil_of_length_pos h.pos
theorem Ns.npos{w:World}{b off cap:Nat}{zs:List Int}{n:Int}(h:Ns w b off cap zs n):0<n:=h.val▸GH h.wd h.can h.ne
theorem Nt.kM{w:World}{v:Value}{n:Int}(h:Nt w v n):0≤n:=by
 rcases h with h|⟨b,off,cap,zs,e,h⟩
 ·omega
 ·have:=h.npos;omega
theorem Nt.pos{w:World}{v:Value}{n:Int}(h:Nt w v n)(h0:n≠0): ∃(b off cap:Nat) (zs:List Int),v=.slice (some ⟨b,off,none⟩) zs.length cap∧Ns w b off cap zs n:=by
 rcases h with h|h
 ·exact absurd h.2 h0
 ·exact h
theorem Nt.nil{w:World}{v:Value}(h:Nt w v 0):v=.slice none 0 0:=by
 rcases h with h|⟨b,off,cap,zs,e,h⟩
 ·exact h.1
 ·have:=h.npos;omega
def aY(w w':World):Prop:= ∃q,w'=w.drewN q
theorem aY.refl(w:World):aY w w:=⟨0,rfl⟩
theorem aY.step(w:World)(q:Nat):aY w (w.drewN q):=⟨q,rfl⟩
theorem aY.trans{a b c:World}(h:aY a b)(k:aY b c):aY a c:=by
 obtain⟨p,rfl⟩:=h;obtain⟨q,rfl⟩:=k
 exact⟨p+q,by rw[World.drewN_drewN]⟩
theorem aY.cell{w w':World}(h:aY w w')(a:Addr):w'.cell? a=w.cell? a:=by obtain⟨q,rfl⟩:=h;rfl
theorem aY.frozen{w w':World}(h:aY w w')(a:Addr):w'.frozen? a=w.frozen? a:=by obtain⟨q,rfl⟩:=h;rfl
theorem aY.heap{w w':World}(h:aY w w'):w'.heap=w.heap:=by obtain⟨q,rfl⟩:=h;rfl
theorem aY.below{w w':World}(h:aY w w')(B:Nat):Below B w w':=by
 obtain⟨q,rfl⟩:=h
 exact⟨rfl,rfl,rfl,Nat.le_refl _,fun _ _=>rfl⟩
def big:Int:=pw^1000
theorem iI{zs:List Int}{n:Int}{k:Nat}(hw:Wd zs)(hc:Can zs)(hv:nv zs=n)(h:n<pw^k):zs.length≤k:=by
 apply Classical.byContradiction
 intro hk
 have hne:zs≠ []:=by intro e;subst e;simp at hk
 have h1:=tq hw hc hne
 have h2:pw^k≤pw^(zs.length-1):=bT (by omega)
 omega
theorem Ns.len{w:World}{b off cap:Nat}{zs:List Int}{n:Int}(h:Ns w b off cap zs n)(hb:n<big):zs.length≤1000:=iI h.wd h.can h.val hb
theorem aI{zs:List Int}(h:Wd zs)(i:Nat):0≤gd zs i∧gd zs i<18446744073709551616:=nZ h i
end Go.Proofs.YtnapiakfbihnjaaGreatDoor
namespace Go.Proofs
open Go.Shelf
def Tryz.lays25_ren:Go.Shelf.Ren:=⟨fun|25=>198|n=>n,fun|22=>24|n=>n,fun|n=>n⟩
theorem Tryz.lays25:Go.Proofs.Lays7.n25 Tryz.prog Tryz.lays25_ren:=
 {mixed:=by kernel_rfl,
  f25:=Tryz.func198.trans (congrArg some (by kernel_rfl)),
  t22:=Tryz.underlying24,
  a22:=Tryz.isAgg24,
  z22:=Tryz.sizeOf24,
  v22:=Tryz.zeroValue24,
  i22:=by kernel_rfl}
def Tryz.lays26_ren:Go.Shelf.Ren:=⟨fun|26=>199|n=>n,fun|22=>24|n=>n,fun|n=>n⟩
theorem Tryz.lays26:Go.Proofs.Lays7.n26 Tryz.prog Tryz.lays26_ren:=
 {mixed:=by kernel_rfl,
  f26:=Tryz.func199.trans (congrArg some (by kernel_rfl)),
  t22:=Tryz.underlying24,
  a22:=Tryz.isAgg24,
  z22:=Tryz.sizeOf24,
  v22:=Tryz.zeroValue24,
  i22:=by kernel_rfl}
def Tryz.lays29_ren:Go.Shelf.Ren:=⟨fun|29=>232|n=>n,fun|22=>24|3=>3|4=>4|25=>144|54=>265|0=>0|5=>5|n=>n,fun|1=>1|n=>n⟩
theorem Tryz.lays29:Go.Proofs.Lays7.n29 Tryz.prog Tryz.lays29_ren:=
 {mixed:=by kernel_rfl,
  f29:=Tryz.func232.trans (congrArg some (by kernel_rfl)),
  t0:=Tryz.underlying0,
  a0:=Tryz.isAgg0,
  z0:=Tryz.sizeOf0,
  v0:=Tryz.zeroValue0,
  i0:=by kernel_rfl,
  t3:=Tryz.underlying3,
  a3:=Tryz.isAgg3,
  z3:=Tryz.sizeOf3,
  v3:=Tryz.zeroValue3,
  i3:=by kernel_rfl,
  t4:=Tryz.underlying4,
  a4:=Tryz.isAgg4,
  z4:=Tryz.sizeOf4,
  v4:=Tryz.zeroValue4,
  i4:=by kernel_rfl,
  t5:=Tryz.underlying5,
  a5:=Tryz.isAgg5,
  z5:=Tryz.sizeOf5,
  v5:=Tryz.zeroValue5,
  i5:=by kernel_rfl,
  t22:=Tryz.underlying24,
  a22:=Tryz.isAgg24,
  z22:=Tryz.sizeOf24,
  v22:=Tryz.zeroValue24,
  i22:=by kernel_rfl,
  t25:=Tryz.underlying144,
  a25:=Tryz.isAgg144,
  z25:=Tryz.sizeOf144,
  v25:=Tryz.zeroValue144,
  i25:=by kernel_rfl,
  t54:=Tryz.underlying265,
  a54:=Tryz.isAgg265,
  z54:=Tryz.sizeOf265,
  g1:=by kernel_rfl}
def Tryz.lays134_ren:Go.Shelf.Ren:=⟨fun|134=>262|129=>287|n=>n,fun|53=>24|3=>3|4=>4|46=>144|5=>5|9=>9|n=>n,fun|n=>n⟩
theorem Tryz.lays134:Go.Proofs.Lays.n134 Tryz.prog Tryz.lays134_ren:=
 {mixed:=by kernel_rfl,
  f129:=Tryz.func287.trans (congrArg some (by kernel_rfl)),
  f134:=Tryz.func262.trans (congrArg some (by kernel_rfl)),
  t3:=Tryz.underlying3,
  a3:=Tryz.isAgg3,
  z3:=Tryz.sizeOf3,
  v3:=Tryz.zeroValue3,
  t4:=Tryz.underlying4,
  a4:=Tryz.isAgg4,
  z4:=Tryz.sizeOf4,
  v4:=Tryz.zeroValue4,
  t5:=Tryz.underlying5,
  a5:=Tryz.isAgg5,
  z5:=Tryz.sizeOf5,
  v5:=Tryz.zeroValue5,
  t9:=Tryz.underlying9,
  a9:=Tryz.isAgg9,
  z9:=Tryz.sizeOf9,
  v9:=Tryz.zeroValue9,
  t46:=Tryz.underlying144,
  a46:=Tryz.isAgg144,
  z46:=Tryz.sizeOf144,
  v46:=Tryz.zeroValue144,
  t53:=Tryz.underlying24,
  a53:=Tryz.isAgg24,
  z53:=Tryz.sizeOf24,
  v53:=Tryz.zeroValue24}
def Tryz.lays264_ren:Go.Shelf.Ren:=⟨fun|264=>246|n=>n,fun|53=>24|46=>144|n=>n,fun|n=>n⟩
theorem Tryz.lays264:Go.Proofs.Lays.n264 Tryz.prog Tryz.lays264_ren:=
 {mixed:=by kernel_rfl,
  f264:=Tryz.func246.trans (congrArg some (by kernel_rfl)),
  t46:=Tryz.underlying144,
  a46:=Tryz.isAgg144,
  z46:=Tryz.sizeOf144,
  v46:=Tryz.zeroValue144,
  t53:=Tryz.underlying24,
  a53:=Tryz.isAgg24,
  z53:=Tryz.sizeOf24,
  v53:=Tryz.zeroValue24}
def Tryz.lays122_ren:Go.Shelf.Ren:=⟨fun|122=>212|215=>248|n=>n,fun|3=>3|4=>4|n=>n,fun|n=>n⟩
theorem Tryz.lays122:Go.Proofs.Lays.n122 Tryz.prog Tryz.lays122_ren:=
 {mixed:=by kernel_rfl,
  f122:=Tryz.func212.trans (congrArg some (by kernel_rfl)),
  f215:=Tryz.func248.trans (congrArg some (by kernel_rfl)),
  t3:=Tryz.underlying3,
  a3:=Tryz.isAgg3,
  z3:=Tryz.sizeOf3,
  v3:=Tryz.zeroValue3,
  t4:=Tryz.underlying4,
  a4:=Tryz.isAgg4,
  z4:=Tryz.sizeOf4,
  v4:=Tryz.zeroValue4}
end Go.Proofs
namespace Go.Proofs.YtnapiakfbihnjaaGreatDoor
open Go.RowKit Go.Shelf
theorem QC(x y c:Int)(hx:0≤x)(hy:0≤y)(hc0:0≤c)(hc:c≤1)(w:World):(callFunc 198 #[.int .u64 x,.int .u64 y,.int .u64 c]).run Tryz.prog w=
 .ok (.value (.tuple #[.int .u64 ((x+y+c)%18446744073709551616),.int .u64 ((x+y+c)/18446744073709551616)])) w:=by
 obtain⟨x,rfl⟩:=Int.eq_ofNat_of_zero_le hx
 obtain⟨y,rfl⟩:=Int.eq_ofNat_of_zero_le hy
 obtain⟨c,rfl⟩:=Int.eq_ofNat_of_zero_le hc0
 refine(Any7.bits_Add64 Tryz.lays25 x y c (by omega) w).trans ?_
 congr 5<;>omega
theorem Dk(x y:Int)(hx:0≤x)(hy:0≤y)(w:World):(callFunc 198 #[.int .u64 x,.int .u64 y,.int .u64 0]).run Tryz.prog w=
 .ok (.value (.tuple #[.int .u64 ((x+y)%18446744073709551616),.int .u64 ((x+y)/18446744073709551616)])) w:=by
 simpa using QC x y 0 hx hy (Int.le_refl 0) (by decide) w
def pU(x y:Int):Int:=if x<y then 1 else 0
theorem uM(x y:Int):0≤pU x y∧pU x y≤1:=by unfold pU;split<;>omega
theorem Lc(x y:Int)(hx:0≤x)(hx':x<18446744073709551616)(hy:0≤y)(hy':y≤18446744073709551616):(x-y)%18446744073709551616-18446744073709551616*pU x y=x-y:=by
 unfold pU;split<;>omega
theorem aas(x y b:Int)(hx:0≤x)(hy:0≤y)(hy':y<18446744073709551616)(hb0:0≤b)(hb:b≤1)(w:World):(callFunc 199 #[.int .u64 x,.int .u64 y,.int .u64 b]).run Tryz.prog w=
 .ok (.value (.tuple #[.int .u64 ((x-y-b)%18446744073709551616),.int .u64 (pU x (y+b))])) w:=by
 obtain⟨x,rfl⟩:=Int.eq_ofNat_of_zero_le hx
 obtain⟨y,rfl⟩:=Int.eq_ofNat_of_zero_le hy
 obtain⟨b,rfl⟩:=Int.eq_ofNat_of_zero_le hb0
 have e1:(((x+18446744073709551616-y-b)%18446744073709551616:Nat):Int)=((x:Int)-y-b)%18446744073709551616:=by omega
 have e2:((if x<y+b then 1 else 0:Nat):Int)=pU (x:Int) (y+b):=by unfold pU;split<;>split<;>omega
 rw[←e1,←e2]
 exact Any7.bits_Sub64 Tryz.lays26 x y b (by omega) w
theorem vX(x y:Int)(hx:0≤x)(hy:0≤y)(hy':y<18446744073709551616)(w:World):(callFunc 199 #[.int .u64 x,.int .u64 y,.int .u64 0]).run Tryz.prog w=
 .ok (.value (.tuple #[.int .u64 ((x-y)%18446744073709551616),.int .u64 (pU x y)])) w:=by
 simpa using aas x y 0 hx hy hy' (Int.le_refl 0) (by decide) w
def aQ(n:Int):Nat:=if n≤0 then 0 else n.toNat.log2+1
theorem eF{n:Int}(h:0<n):(2:Int)^(aQ n-1)≤n∧n<2^aQ n∧1≤aQ n:=by
 obtain⟨k,rfl⟩:=Int.eq_ofNat_of_zero_le (Int.le_of_lt h)
 have hk:k≠0:=by omega
 unfold aQ
 rw[if_neg (by omega)]
 simp only[Int.toNat_natCast,Nat.add_sub_cancel]
 have h1:=Nat.log2_self_le hk
 have h2:k<2^(k.log2+1):=Nat.lt_log2_self
 refine⟨?_,?_,by omega⟩
 ·exact_mod_cast h1
 ·exact_mod_cast h2
theorem IY{n:Int}{k:Nat}(h1:(2:Int)^k≤n)(h2:n<2^(k+1)):aQ n=k+1:=by
 have hp:(0:Int)<2^k:=Int.pow_pos (by omega)
 obtain⟨m,rfl⟩:=Int.eq_ofNat_of_zero_le (show 0≤n by omega)
 unfold aQ
 rw[if_neg (by omega)]
 simp only[Int.toNat_natCast]
 have hm:m≠0:=by omega
 have:=(Nat.log2_eq_iff hm (k:=k)).2 ⟨by exact_mod_cast h1,by exact_mod_cast h2⟩
 omega
theorem Xf(x:Nat)(h:x<18446744073709551616):Lib.bitLen x=aQ x:=by
 have aux: ∀f y,y<2^f→Lib.bitLenAux f y=if y=0 then 0 else y.log2+1:=by
  intro f
  induction f with
  |zero=>intro y hy;have:y=0:=by simpa using hy
         subst this;rfl
  |succ f ih=>
   intro y hy
   unfold Lib.bitLenAux
   by_cases h0:y=0
   ·simp[h0]
   ·rw[if_neg h0,if_neg h0,ih (y/2) (by rw[Nat.pow_succ]at hy;omega)]
    by_cases h1:y/2=0
    ·have:y=1:=by omega
     subst this;rfl
    ·rw[if_neg h1]
     rw[Nat.log2_def y,if_pos (by omega)];omega
 unfold Lib.bitLen
 rw[aux 64 x (by omega)]
 unfold aQ
 by_cases h0:x=0
 ·simp[h0]
 ·rw[if_neg h0,if_neg (by omega)];simp
theorem lead_any(x:Int)(w:World)(h0:0≤x)(h1:x<18446744073709551616):
 Calls Tryz.prog 262 #[.int .u64 x] w fun e w'=>e=.returned (.int .i64 (64-(aQ x:Int)))∧w=w':=by
 refine(Any.bits_LeadingZeros64 Tryz.lays134 x w h0 (by omega)).mono ?_
 rintro e w' ⟨rfl,rfl⟩
 refine⟨?_,rfl⟩
 obtain⟨k,rfl⟩:=Int.eq_ofNat_of_zero_le h0
 rw[Int.toNat_natCast,Xf k (by omega)]
end Go.Proofs.YtnapiakfbihnjaaGreatDoor
namespace Go.Proofs.YtnapiakfbihnjaaGreatDoor
open Go.RowKit Tryz
def Gt(a:Addr)(cap m:Nat):Value:=if m=0 then .slice none 0 0 else .slice (some a) m cap
def NQ(w:World)(a:Addr)(cap:Nat)(zs:List Int)(e:Ending)(w':World):Prop:=
 w=w'∧ ∃m:Nat,m≤zs.length∧(m≠0→gd zs (m-1)≠0)∧(∀j,m≤j→gd zs j=0)∧
  e=.returned (Gt a cap m)
theorem oC(b off cap:Nat)(zs:List Int)(w:World)(hl:zs.length≤9223372036854775807)(hcap:zs.length≤cap)
 (hc: ∀i,i<zs.length→w.cell? ⟨b,off+i,none⟩=some (.int .u64 (gd zs i))):
 Calls prog 189 #[.slice (some ⟨b,off,none⟩) zs.length cap] w (NQ w ⟨b,off,none⟩ cap zs):=by
 obtain⟨n,hn⟩: ∃n,zs.length=n:=⟨_,rfl⟩
 have HN:Hid (zs.length=n):=h_ hn
 rw[hn]at hl hcap hc⊢
 clear hn
 go_enter func189,ntmps189
 go_wp2_with fail
 go_loop [4] (fun i=> ∃m:Nat,m≤n∧i=.int .i64 m∧Hid (∀j,m≤j→gd zs j=0)) (fun i=>(intOf i).toNat)
 case atStart=>exact⟨n,Nat.le_refl _,rfl,h_ fun j hj=>iL (by rw[HN.out];exact hj)⟩
 case round=>
  obtain⟨m,hm,rfl,hz⟩:=hrel
  rcases m with _|m
  ·clear hc
   go_wp2
   go_ret
   exact⟨rfl,0,by omega,fun h=>absurd rfl h,hz.out,rfl⟩
  ·have hcm:=hc m (by omega)
   clear hc
   by_cases h0:gd zs m=0
   ·have HZ:Hid (∀j,m≤j→gd zs j=0):=h_ fun j hj=>by
     by_cases e:j=m
     ·subst e;exact h0
     ·exact hz.out j (by omega)
    rw[h0]at hcm
    clear hz h0
    go_wp2
    go_round
    case rel=>exact⟨m,by omega,by go_num,HZ⟩
    case measure=>simp[intOf]
   ·have hb:(gd zs m==0)=false:=by simpa using h0
    have H0:=h_ h0
    clear h0
    go_wp2
    go_ret
    exact⟨rfl,m+1,by rw[HN.out];omega,fun _=>H0.out,hz.out,rfl⟩
theorem PV(w:World):Calls prog 114 #[.slice none 0 0] w fun e w'=>e=.returned (.bool false)∧w=w':=by
 go_enter func114,ntmps114
 go_wp2
 go_ret
 exact⟨rfl,rfl⟩
theorem Lr(w:World)(b off cap:Nat)(zs:List Int)(n:Int)(h:Ns w b off cap zs n)(hs:n<big):
 Calls prog 114 #[.slice (some ⟨b,off,none⟩) zs.length cap] w fun e w'=>e=.returned (.bool (decide (n=1)))∧w=w':=by
 have hl:=h.len hs
 have hp:=h.pos
 have hc:=h.row 0 hp
 rw[Nat.add_zero]at hc
 have H:=h_ h
 have hcap:=h.cap
 clear h hs
 obtain⟨k,hk⟩: ∃k,zs.length=k:=⟨_,rfl⟩
 have HK:=h_ hk
 rw[hk]at hl hp hcap⊢
 clear hk
 by_cases h1:k=1
 ·have hv:Hid (decide (n=1)=(gd zs 0==1)):=h_ (by
   have:zs=[gd zs 0]:=by
    match zs,HK.out with
    |[z],_=>simp[gd]
    |[],h=>simp at h;omega
    |_::_::_,h=>simp at h;omega
   have h2:=H.out.val
   rw[this]at h2
   simp only[nv]at h2
   by_cases e:gd zs 0=1
   ·simp[e];omega
   ·have: ¬n=1:=by omega
    simp[e,this])
  subst h1
  go_enter func114,ntmps114
  go_wp2
  go_ret
  rw[hv.out]
  exact⟨rfl,rfl⟩
 ·have hb:((k:Int)==1)=false:=by simp;omega
  have hv:Hid (decide (n=1)=false):=h_ (by
   have h3:=tq H.out.wd H.out.can H.out.ne
   have h4:pw^1≤pw^(zs.length-1):=bT (by rw[HK.out];omega)
   have h5:=H.out.val
   have:(1:Int)<pw^1:=by decide
   simp;omega)
  clear hc h1
  go_enter func114,ntmps114
  go_wp2
  go_ret
  rw[hv.out]
  exact⟨rfl,rfl⟩
theorem GK(w:World)(v:Value)(n:Int)(h:Nt w v n)(hs:n<big):
 Calls prog 114 #[v] w fun e w'=>e=.returned (.bool (decide (n=1)))∧w=w':=by
 rcases h with⟨rfl,rfl⟩|⟨b,off,cap,zs,rfl,h⟩
 ·exact PV w
 ·exact Lr w b off cap zs n h hs
def bf(w:World)(n:Int)(e:Ending)(w':World):Prop:= ∃v,e=.returned v∧Nt w' v n∧Below w.heap.size w w'
theorem Qy(w:World):Calls prog 178 #[.int .u64 0] w (bf w 0):=by
 go_enter func178,ntmps178
 go_wp2
 go_ret
 exact⟨_,rfl,Nt.zero _,Below.refl _ _⟩
theorem zO(w:World)(x:Int)(h0:0<x)(h1:x<18446744073709551616):Nt (w.alloc (.cells #[.int .u64 x] 24)) (.slice (some ⟨w.heap.size,0,none⟩) 1 1) x:=by
 refine .inr ⟨w.heap.size,0,1,[x],rfl,⟨Nat.le_refl _,by simp,by rw[World.size_alloc];omega,?_,?_,by simp[nv],?_,⟨_,_,by show(w.heap.push _)[w.heap.size]?=_;rw[Array.getElem?_push,if_pos rfl]⟩⟩⟩
 ·intro z hz;simp at hz;subst hz;exact⟨by omega,h1⟩
 ·simp[gd];omega
 ·intro i hi
  have:i=0:=by simp at hi;omega
  subst this
  simp[gd,go_sem]
theorem UZ(w:World)(x:Int)(h0:0<x)(h1:x<18446744073709551616):Calls prog 178 #[.int .u64 x] w (bf w x):=by
 have hb:(x==0)=false:=by simp;omega
 have hr:=h_ (zO w x h0 h1)
 go_enter func178,ntmps178
 go_wp2
 go_ret
 exact⟨_,rfl,hr.out,(Below.refl _ _).alloc (Nat.le_refl _) _⟩
theorem qQ(w:World)(x:Int)(h0:0≤x)(h1:x<18446744073709551616):Calls prog 178 #[.int .u64 x] w (bf w x):=by
 by_cases h:x=0
 ·subst h;exact Qy w
 ·exact UZ w x (by omega) h1
end Go.Proofs.YtnapiakfbihnjaaGreatDoor
namespace Go.Proofs.YtnapiakfbihnjaaGreatDoor
open Go.RowKit Go.Shelf Tryz
theorem lI(k:Nat):pw^k=2^(64*k):=by
 rw[Int.pow_mul];rfl
theorem asv{zs:List Int}(h:0<zs.length):nv zs=nv (zs.take (zs.length-1))+pw^(zs.length-1)*gd zs (zs.length-1):=by
 have:=jP zs (zs.length-1) (by omega)
 rw[show zs.length-1+1=zs.length by omega,List.take_length]at this
 exact this
theorem Il{zs:List Int}(hw:Wd zs)(hp:0<zs.length)(ht:gd zs (zs.length-1)≠0):
 aQ (nv zs)=64*(zs.length-1)+aQ (gd zs (zs.length-1)):=by
 have h1:=asv hp
 have h2:=dw (eP hw (zs.length-1))
 have h3:=jb (eP hw (zs.length-1))
 rw[List.length_take,Nat.min_eq_left (by omega)]at h3
 have h4:=nZ hw (zs.length-1)
 generalize gd zs (zs.length-1)=t at*
 generalize nv (zs.take (zs.length-1))=lo at*
 generalize zs.length-1=k at*
 rw[h1,lI]at*
 obtain⟨s1,s2,s3⟩:=eF (show 0<t by omega)
 generalize aQ t=b at*
 obtain⟨c,rfl⟩: ∃c,b=c+1:=⟨b-1,by omega⟩
 have hp:(0:Int)<2^(64*k):=Int.pow_pos (by omega)
 refine IY (k:=64*k+c) ?_ ?_
 ·rw[Int.pow_add]
  have:=Int.mul_le_mul_of_nonneg_left s1 (Int.le_of_lt hp)
  simp only[Nat.add_sub_cancel]at this
  omega
 ·rw[show 64*k+c+1=64*k+(c+1)by omega,Int.pow_add]
  have:=Int.mul_le_mul_of_nonneg_left (show t≤2^(c+1)-1 by omega) (Int.le_of_lt hp)
  rw[Int.mul_sub]at this
  omega
theorem nN{x:Int}(h:x<18446744073709551616):aQ x≤64:=by
 unfold aQ
 split
 ·omega
 ·have:=(Nat.log2_lt (by omega)).2 (show x.toNat<2^64 by omega)
  omega
theorem size_any(w:World)(v:Value)(n:Int)(h:Nt w v n)(hs:n<big):
 Calls prog 233 #[v] w fun e w'=>e=.returned (.int .i64 (aQ n))∧w=w':=by
 rcases h with⟨rfl,rfl⟩|⟨b,off,cap,zs,rfl,h⟩
 ·go_enter func233,ntmps233
  go_wp2
  go_ret
  exact⟨rfl,rfl⟩
 ·have hl:=h.len hs
  have hp:=h.pos
  have hv:=h_ (h.val▸Il h.wd hp h.top)
  have hcap:=h.cap
  have hc:=h.row (zs.length-1) (by omega)
  obtain⟨g0,g1⟩:=aI h.wd (zs.length-1)
  have hb:=nN g1
  clear h hs
  obtain⟨k,hk⟩: ∃k,zs.length=k:=⟨_,rfl⟩
  rw[hk]at hl hp hv hcap hc hb g0 g1⊢
  clear hk
  obtain⟨m,rfl⟩: ∃m,k=m+1:=⟨k-1,by omega⟩
  simp only[Nat.add_sub_cancel]at hv hc hb g0 g1
  have hb0:((m:Int)+1==0)=false:=by simp;omega
  go_enter func233,ntmps233
  go_wp2_with (go_at_call 262;refine(lead_any _ _ g0 g1).mono ?_;rintro e w' ⟨rfl,rfl⟩)
  go_ret
  rw[hv.out]
  exact⟨congrArg (fun i=>Ending.returned (Value.int .i64 i)) (by omega),rfl⟩
theorem JI(w:World)(v:Value)(n:Int)(b off cap:Nat)(zs:List Int)(hv:v=.slice (some ⟨b,off,none⟩) zs.length cap)(h:Ns w b off cap zs n)(hs:n<big)(i:Int)(h0:0≤i)(h1:i<1000000000):
 Calls prog 221 #[v,.int .i64 i] w fun e w'=>e=.returned (.int .u64 (gd zs i.toNat))∧w=w':=by
 subst hv
 obtain⟨i,rfl⟩:=Int.eq_ofNat_of_zero_le h0
 rw[Int.toNat_natCast]
 have hl:=h.len hs
 have hcap:=h.cap
 by_cases hi:i<zs.length
 ·have hc:=h.row i hi
  clear h hs
  obtain⟨k,hk⟩: ∃k,zs.length=k:=⟨_,rfl⟩
  rw[hk]at hl hi hcap⊢
  clear hk
  go_enter func221,ntmps221
  go_wp2
  go_ret
  exact⟨rfl,rfl⟩
 ·have hz:=h_ (iL (zs:=zs) (n:=i) (by omega))
  clear h hs
  obtain⟨k,hk⟩: ∃k,zs.length=k:=⟨_,rfl⟩
  rw[hk]at hl hi hcap⊢
  clear hk
  go_enter func221,ntmps221
  go_wp2
  go_ret
  rw[hz.out]
  exact⟨rfl,rfl⟩
theorem Ux(w:World)(i:Int)(h0:0≤i)(h1:i<1000000000):
 Calls prog 221 #[.slice none 0 0,.int .i64 i] w fun e w'=>e=.returned (.int .u64 0)∧w=w':=by
 go_enter func221,ntmps221
 go_wp2
 go_ret
 exact⟨rfl,rfl⟩
def Env(w:World):Prop:=TabAt 1 Lib.deBruijn64tab w∧1<w.heap.size
theorem Env.below{w w':World}(h:Env w)(hw:Below w.heap.size w w'):Env w':=
 ⟨fun j hj=>(hw.cell (p:=⟨1,j,none⟩) h.2).trans (h.1 j hj),Nat.lt_of_lt_of_le h.2 hw.size⟩
theorem adY(x:Int)(w:World)(hE:Env w)(h0:0<x)(h1:x<18446744073709551616):
 Calls prog 232 #[.int .u64 x] w fun e w'=>e=.returned (.int .i64 (Lib.ctz 64 x.toNat))∧w=w':=by
 obtain⟨k,rfl⟩:=Int.eq_ofNat_of_zero_le (Int.le_of_lt h0)
 rw[Int.toNat_natCast]
 refine(Any7.bits_TrailingZeros64 Tryz.lays29 k (by omega) w fun _=>hE.1).mono ?_
 rintro e w' ⟨rfl,rfl⟩
 exact⟨rfl,rfl⟩
theorem Ue(x:Int)(h0:0<x)(h1:x<18446744073709551616):Lib.ctz 64 x.toNat≤63∧ ∃m:Int,x=2^Lib.ctz 64 x.toNat*(2*m+1):=by
 obtain⟨k,rfl⟩:=Int.eq_ofNat_of_zero_le (Int.le_of_lt h0)
 rw[Int.toNat_natCast]
 obtain⟨m,e,h⟩:=Lib.ctzFrom_spec 64 k (by omega) (by omega)
 have hc:Lib.ctz 64 k=Lib.ctzFrom 64 k:=by unfold Lib.ctz;rw[if_neg (by omega)]
 rw[hc]
 refine⟨by omega,(m:Int),?_⟩
 have:((k:Nat):Int)=((2^Lib.ctzFrom 64 k*(2*m+1):Nat):Int):=by rw[←e]
 rw[this];simp
def aez(w:World)(n:Int)(e:Ending)(w':World):Prop:=w=w'∧ ∃(z:Nat) (m:Int),e=.returned (.int .i64 z)∧n=2^z*(2*m+1)
theorem ahT{zs:List Int}(i:Nat)(hi:i<zs.length)(hz: ∀j,j<i→gd zs j=0)(m:Int)(c:Nat)(hm:gd zs i=2^c*(2*m+1))(hc:c≤63):
 ∃m',nv zs=2^(64*i+c)*(2*m'+1):=by
 have h1:=gy zs i (by omega)
 have h2:nv (zs.take i)=0:=by
  have: ∀k,k≤i→nv (zs.take k)=0:=by
   intro k hk
   induction k with
   |zero=>rfl
   |succ k ih=>rw[jP zs k (by omega),ih (by omega),hz k (by omega)];simp
  exact this i (Nat.le_refl _)
 have h3:zs.drop i=gd zs i::zs.drop (i+1):=by rw[List.drop_eq_getElem_cons hi,gK hi]
 rw[h3]at h1
 simp only[nv]at h1
 rw[h1,h2,lI,hm]
 have h4:pw=2^c*2*2^(63-c):=by
  rw[←Int.pow_succ,←Int.pow_add,show c+1+(63-c)=64 by omega];rfl
 refine⟨m+2^(63-c)*nv (zs.drop (i+1)),?_⟩
 rw[h4,Int.pow_add]
 grind
theorem aeA(w:World)(hE:Env w)(v:Value)(n:Int)(hN:Nt w v n)(hs:n<big)(hn:n≠0):
 Calls prog 192 #[v] w (aez w n):=by
 obtain⟨b,off,cap,zs,rfl,h⟩:=hN.pos hn
 clear hN
 have hl:=h.len hs
 have hcap:=h.cap
 have hp:=h.pos
 have H:=h_ h
 have hc:=h.row
 have HE:=h_ hE
 clear h hs hn hE
 obtain⟨k,hk⟩: ∃k,zs.length=k:=⟨_,rfl⟩
 have HK:=h_ hk
 unfold Row at hc
 rw[hk]at hl hcap hp hc⊢
 clear hk
 go_enter func192,ntmps192
 go_wp2_with fail
 go_loop [3] (fun i=> ∃m:Nat,m<k∧i=.int .i64 m∧Hid (∀j,j<m→gd zs j=0)) (fun i=>k-(intOf i).toNat)
 case atStart=>exact⟨0,hp,rfl,h_ fun j hj=>by omega⟩
 case round=>
  obtain⟨m,hm,rfl,hz⟩:=hrel
  have hcm:=hc m hm
  clear hc
  by_cases h0:gd zs m=0
  ·have hm':m+1<k:=by
    apply Classical.byContradiction
    intro hh
    have h9:=H.out.top
    rw[HK.out,show k-1=m by omega]at h9
    exact h9 h0
   have HZ:Hid (∀j,j<m+1→gd zs j=0):=h_ fun j hj=>by
    by_cases e:j=m
    ·subst e;exact h0
    ·exact hz.out j (by omega)
   rw[h0]at hcm
   clear hz h0
   go_wp2_with fail
   go_round
   case rel=>exact⟨m+1,hm',by go_num,HZ⟩
   case measure=>simp[intOf];omega
  ·have hb:(gd zs m==0)=false:=by simpa using h0
   obtain⟨g0,g1⟩:=aI H.out.wd m
   have gp:0<gd zs m:=by omega
   obtain⟨c1,m',c2⟩:=Ue _ gp g1
   have C2:=h_ c2
   clear h0 c2
   go_wp2_with (go_at_call 232;refine(adY _ _ HE.out gp g1).mono ?_;rintro e w' ⟨rfl,rfl⟩)
   go_ret
   obtain⟨m2,h2⟩:=ahT m (by rw[HK.out];exact hm) hz.out _ _ C2.out c1
   refine⟨rfl,64*m+Lib.ctz 64 (gd zs m).toNat,m2,?_,by rw[←h2,H.out.val]⟩
   exact congrArg (fun i=>Ending.returned (Value.int .i64 i)) (by omega)
def bW(x y:Int):Int:=if x<y then-1 else if y<x then 1 else 0
theorem iV{x y:Int}(h:x<y):bW x y= -1:=by unfold bW;rw[if_pos h]
theorem mJ{x y:Int}(h:y<x):bW x y=1:=by unfold bW;rw[if_neg (by omega),if_pos h]
theorem yU(x:Int):bW x x=0:=by unfold bW;rw[if_neg (by omega),if_neg (by omega)]
theorem aau(x y:Int)(w:World):
 Calls prog 212 #[.int .i64 x,.int .i64 y] w fun e w'=>e=.returned (.int .i64 (bW x y))∧w=w':=by
 refine(Any.cmp_Compare_int Tryz.lays122 x y w).mono ?_
 rintro e w' ⟨rfl,rfl⟩
 exact⟨rfl,rfl⟩
theorem OE(x y:Int)(w:World):
 Calls prog 213 #[.int .u64 x,.int .u64 y] w fun e w'=>e=.returned (.int .i64 (bW x y))∧w=w':=by
 rcases Int.lt_trichotomy x y with h|h|h
 ·have h1:=h_ (iV h)
  go_enter func213,ntmps213
  go_wp2
  go_ret
  exact⟨by rw[h1.out];rfl,rfl⟩
 ·subst h
  have h1:=h_ (yU x)
  go_enter func213,ntmps213
  go_wp2
  go_ret
  exact⟨by rw[h1.out];rfl,rfl⟩
 ·have h1:=h_ (mJ h)
  go_enter func213,ntmps213
  go_wp2
  go_ret
  exact⟨by rw[h1.out];rfl,rfl⟩
theorem Hy(ao bo:Option Addr)(la lb ca cb:Nat)(w:World)(hla:la≤1000)(hlb:lb≤1000)(hne:la≠lb):
 Calls prog 179 #[.slice ao la ca,.slice bo lb cb] w fun e w'=>e=.returned (.int .i64 (bW la lb))∧w=w':=by
 have hb:((la:Int) !=lb)=true:=by simp;omega
 go_enter func179,ntmps179
 go_wp2_with (go_at_call 212;refine(aau _ _ _).mono ?_;rintro e w' ⟨rfl,rfl⟩)
 go_ret
 exact⟨rfl,rfl⟩
theorem Nv(w:World):Calls prog 179 #[.slice none 0 0,.slice none 0 0] w fun e w'=>e=.returned (.int .i64 0)∧w=w':=by
 go_enter func179,ntmps179
 go_wp2
 refine wp_loop_rounds 1 ?_
 rw[rounds_succ]
 go_wp2
 go_ret
 exact⟨rfl,rfl⟩
theorem tX{za zb:List Int}(ha:Wd za)(hb:Wd zb)(hl:za.length=zb.length)(i:Nat)(hi:i<za.length)(hz: ∀j,i<j→gd za j=gd zb j)(hlt:gd za i<gd zb i):nv za<nv zb:=by
 have h1:=gy za (i+1) (by omega)
 have h2:=gy zb (i+1) (by omega)
 have h3:za.drop (i+1)=zb.drop (i+1):=by
  refine List.ext_getElem (by simp[hl]) ?_
  intro j h4 h5
  have h6:=hz (i+1+j) (by omega)
  rw[gK (by simp at h4;omega),gK (by simp at h5;omega)]at h6
  simpa using h6
 rw[jP za i hi,h3]at h1
 rw[jP zb i (by omega)]at h2
 have h4:=jb (eP ha i)
 have h5:=dw (eP hb i)
 rw[List.length_take,Nat.min_eq_left (by omega)]at h4
 have h6:=Int.mul_le_mul_of_nonneg_left (show gd za i≤gd zb i-1 by omega) (Int.le_of_lt (ji i))
 rw[Int.mul_sub]at h6
 omega
theorem AL{za zb:List Int}(ha:Wd za)(hb:Wd zb)(cb:Can zb)(nb:zb≠ [])(hl:za.length<zb.length):nv za<nv zb:=by
 have h1:=jb ha
 have h2:=tq hb cb nb
 have h3:pw^za.length≤pw^(zb.length-1):=bT (by omega)
 omega
def jr(w:World)(v:Value)(e:Ending)(w':World):Prop:=e=.returned v∧aY w w'
theorem cmp_eq(w:World)(b off cap b2 aX cap2:Nat)(za zb:List Int)(hl:za.length=zb.length)(hk:za.length≤1000)(hca:za.length≤cap)(hcb:zb.length≤cap2)(ha:Wd za)(hb:Wd zb)
 (ra:Row w b off za) (rb:Row w b2 aX zb):
 Calls prog 179 #[.slice (some ⟨b,off,none⟩) za.length cap,.slice (some ⟨b2,aX,none⟩) zb.length cap2] w (jr w (.int .i64 (bW (nv za) (nv zb)))):=by
 rw[←hl]at hcb⊢
 have HL:=h_ hl
 clear hl
 obtain⟨k,hk'⟩: ∃k,za.length=k:=⟨_,rfl⟩
 have HK:=h_ hk'
 rw[hk']at hk hca hcb⊢
 clear hk'
 have hne:((k:Int) !=k)=false:=by simp
 have RA:=h_ ra
 have RB:=h_ rb
 have HA:=h_ ha
 have HB:=h_ hb
 clear ra rb ha hb
 go_enter func179,ntmps179
 go_wp2_with fail
 go_loopw [5] (fun i wr=> ∃m:Nat,m≤k∧i=.int .i64 ((m:Int)-1)∧aY w wr∧Hid (∀j,m≤j→gd za j=gd zb j)) (fun i _=>(intOf i+1).toNat)
 case atStart=>exact⟨k,Nat.le_refl _,by go_num,aY.refl _,h_ fun j hj=>by rw[iL (by rw[HK.out];exact hj),iL (by rw[←HL.out,HK.out];exact hj)]⟩
 case round=>
  obtain⟨m,hm,rfl,hd,hz⟩:=hrel
  rcases m with _|m
  ·go_wp2_with fail
   go_ret
   have e:za=zb:=by
    refine List.ext_getElem (by rw[HL.out]) ?_
    intro j h4 h5
    have h6:=hz.out j (by omega)
    rwa [gK h4,gK h5]at h6
   exact⟨by rw[e,yU];rfl,hd⟩
  ·have e:(((m+1:Nat):Int)-1)=(m:Int):=by omega
   rw[e]
   clear e
   have Ej:=(hd.cell _).trans (RA.out m (by rw[HK.out];omega))
   have Jv:=(hd.cell _).trans (RB.out m (by rw[←HL.out,HK.out];omega))
   have HD:=h_ hd
   clear hd
   by_cases h0:gd za m=gd zb m
   ·have HZ:Hid (∀j,m≤j→gd za j=gd zb j):=h_ fun j hj=>by
     by_cases e:j=m
     ·subst e;exact h0
     ·exact hz.out j (by omega)
    rw[h0]at Ej
    have hn:(gd zb m !=gd zb m)=false:=by simp
    clear hz h0
    go_wp2_with fail
    go_quiet (fail)
    go_wp2_with fail
    go_roundw
    case rel=>exact⟨m,by omega,by go_num,HD.out.trans (aY.step _ _),HZ⟩
    case measure=>simp[intOf]<;>omega
   ·have hn:(gd za m !=gd zb m)=true:=by simpa using h0
    have H0:=h_ h0
    clear h0
    go_wp2_with fail
    go_quiet (fail)
    go_wp2_with fail
    generalize hwq:wr.drewN nq=wq
    have hcb2:wq.cell? {block:=b2,off:=aX+m}=some (Value.int IntKind.u64 (gd zb m)):=by rw[←hwq];exact Jv
    have aqi:wq.cell? {block:=b,off:=off+m}=some (Value.int IntKind.u64 (gd za m)):=by rw[←hwq];exact Ej
    have HQ:Hid (aY wr wq):=h_ (hwq▸aY.step wr _)
    clear hwq Ej Jv
    go_quiet ((go_at_call 213;exact Calls.quiet_of_same ((OE _ _ _).mono fun _ _ h=>⟨h.1,h.2.symm⟩)))
    go_wp2_with fail
    go_ret
    refine⟨?_,HD.out.trans (HQ.out.trans (aY.step _ _))⟩
    rcases Int.lt_trichotomy (gd za m) (gd zb m)with h|h|h
    ·rw[iV (tX HA.out HB.out HL.out m (by rw[HK.out];omega) (fun j hj=>hz.out j (by omega)) h)]
     exact congrArg (fun i=>Ending.returned (Value.int .i64 i)) (iV h)
    ·exact absurd h H0.out
    ·rw[mJ (tX HB.out HA.out HL.out.symm m (by rw[←HL.out,HK.out];omega) (fun j hj=>(hz.out j (by omega)).symm) h)]
     exact congrArg (fun i=>Ending.returned (Value.int .i64 i)) (mJ h)
theorem Ns.qK{w:World}{b off cap b2 aX cap2:Nat}{za zb:List Int}{x y:Int}(h:Ns w b off cap za x)(h2:Ns w b2 aX cap2 zb y)(hl:za.length<zb.length):x<y:=by
 have:=AL h.wd h2.wd h2.can h2.ne hl
 rwa [h.val,h2.val]at this
theorem rE(w:World)(va vb:Value)(x y:Int)(ha:Nt w va x)(hb:Nt w vb y)(hx:x<big)(hy:y<big):
 Calls prog 179 #[va,vb] w (jr w (.int .i64 (bW x y))):=by
 rcases ha with⟨rfl,rfl⟩|⟨b,off,cap,za,rfl,ha⟩<;>rcases hb with⟨rfl,rfl⟩|⟨b2,aX,cap2,zb,rfl,hb⟩
 ·refine(Nv w).mono ?_
  rintro e w' ⟨rfl,rfl⟩
  exact⟨by rw[yU],aY.refl _⟩
 ·have h1:=hb.len hy;have h2:=hb.pos;have h3:=hb.npos
  refine(Hy _ _ _ _ _ _ w (by omega) h1 (by omega)).mono ?_
  rintro e w' ⟨rfl,rfl⟩
  exact⟨by rw[iV h3,iV (by omega)],aY.refl _⟩
 ·have h1:=ha.len hx;have h2:=ha.pos;have h3:=ha.npos
  refine(Hy _ _ _ _ _ _ w h1 (by omega) (by omega)).mono ?_
  rintro e w' ⟨rfl,rfl⟩
  exact⟨by rw[mJ h3,mJ (by omega)],aY.refl _⟩
 ·have h1:=hb.len hy;have h2:=ha.len hx
  rcases Nat.lt_trichotomy za.length zb.length with h|h|h
  ·refine(Hy _ _ _ _ _ _ w h2 h1 (by omega)).mono ?_
   rintro e w' ⟨rfl,rfl⟩
   exact⟨by rw[iV (ha.qK hb h),iV (by omega)],aY.refl _⟩
  ·have:=cmp_eq w b off cap b2 aX cap2 za zb h h2 ha.cap hb.cap ha.wd hb.wd ha.row hb.row
   rw[ha.val,hb.val]at this
   exact this
  ·refine(Hy _ _ _ _ _ _ w h2 h1 (by omega)).mono ?_
   rintro e w' ⟨rfl,rfl⟩
   exact⟨by rw[mJ (hb.qK ha h),mJ (by omega)],aY.refl _⟩
end Go.Proofs.YtnapiakfbihnjaaGreatDoor
namespace Go.Proofs.YtnapiakfbihnjaaGreatDoor
open Go.RowKit Go.Shelf
def bH(w:World)(g:Nat)(L:List Int):Prop:=w.heap[g]?=some (.cells (L.map (Value.int .u64)).toArray 24 (0,0))
theorem bH.cell{w:World}{g:Nat}{L:List Int}(h:bH w g L)(i:Nat)(hi:i<L.length):w.cell? ⟨g,i,none⟩=some (.int .u64 (gd L i)):=by
 rw[cell_of_row w g i _ 24 (0,0) h]
 simp[gK hi,hi]
theorem bH.frozen{w:World}{g:Nat}{L:List Int}(h:bH w g L)(i:Nat):w.frozen? ⟨g,i,none⟩=false:=frozen_of_row w g i _ 24 h
theorem bH.set{w:World}{g:Nat}{L:List Int}(h:bH w g L)(i:Nat)(x:Int):bH (w.setCell ⟨g,i,none⟩ (.int .u64 x)) g (L.set i x):=by
 unfold bH
 rw[heap_setCell_same w g i _ 24 _ h]
 congr 2
 simp[List.map_set]
theorem bH.ty{w:World}{g:Nat}{L:List Int}(h:bH w g L):Ty w g:=⟨_,_,h⟩
theorem bH.lt{w:World}{g:Nat}{L:List Int}(h:bH w g L):g<w.heap.size:=lt_of_block h
theorem bH.below{w w':World}{g B:Nat}{L:List Int}(h:bH w g L)(hg:g<B)(hw:Below B w w'):bH w' g L:=(hw.block g hg).trans h
theorem bH.Dp{w w':World}{g:Nat}{L:List Int}(h:bH w g L)(hd:aY w w'):bH w' g L:=by unfold bH;rw[hd.heap];exact h
theorem bH.row{w:World}{g:Nat}{L:List Int}(h:bH w g L):Row w g 0 L:=fun i hi=>by rw[Nat.zero_add];exact h.cell i hi
theorem gQ{B:Nat}{a w:World}(h:Below B a w){g:Nat}(hg:B≤g)(i:Nat)(u:Value):Below B a (w.setCell ⟨g,i,none⟩ u):=h.setCell (p:=⟨g,i,none⟩) hg u
theorem wO:(Tryz.prog.info? 24).map (fun i=>(i.zero,i.size,i.bytes))=some (some (.int .u64 0),1,8):=by kernel_rfl
theorem jV{w w':World}{n:Nat}(h:w'.ownsRow w.heap.size 24 1 (.slice (some ⟨w.heap.size,0,none⟩) n n) n (madeCells (Value.int .u64 0).cells (n*1)).toList):bH w' w.heap.size (List.replicate n 0):=by
 obtain⟨h1,h2⟩:=h
 rcases h2 with⟨h',_⟩|⟨g,cap,cur,h',_,hg,h3,_,h5,h6⟩
 ·cases h'
 ·injection h' with h7 h8 h9
  injection h7 with h7
  injection h7 with h7
  subst h7
  subst h9
  unfold bH
  rw[hg]
  congr 2
  have e1:cur.toList=(madeCells (Value.int .u64 0).cells (n*1)).toList:=by
   rw[←h6,List.take_of_length_le (by simp[h5])]
  have e2:(madeCells (Value.int .u64 0).cells (n*1)).toList=List.replicate (n*1) (Value.int .u64 0):=toList_madeCells_one _ _
  have e3:cur=(List.replicate (n*1) (Value.int .u64 0)).toArray:=by
   rw[←Array.toArray_toList (xs:=cur),e1,e2]
  rw[e3,Nat.mul_one,List.map_replicate]
theorem gV{w w':World}(hg:w.grownBy w' none):Below w.heap.size w w':=(Below.refl _ _).grown hg (Nat.le_refl _) (fun k h=>by cases h)
theorem WC(x y:Int)(d:Nat)(hd:d≤63)(hx0:0≤x)(hx:x<18446744073709551616)(hy0:0≤y)(hy:y<18446744073709551616):
 bits BinOp.or IntKind.u64 (x/2^d) (IntKind.u64.wrap (y*2^(64-d)))=(x+18446744073709551616*y)/2^d%18446744073709551616:=by
 obtain⟨x,rfl⟩:=Int.eq_ofNat_of_zero_le hx0
 obtain⟨y,rfl⟩:=Int.eq_ofNat_of_zero_le hy0
 have hx':x<18446744073709551616:=by omega
 have hy':y<18446744073709551616:=by omega
 have e64:18446744073709551616=2^d*2^(64-d):=by rw[←Nat.pow_add,show d+(64-d)=64 by omega]
 have abY:18446744073709551616=2^(64-d)*2^d:=by rw[Nat.mul_comm];exact e64
 have hpd:0<2^d:=Nat.two_pow_pos d
 have hpe:0<2^(64-d):=Nat.two_pow_pos _
 have ha:x/2^d<2^(64-d):=by rw[Nat.div_lt_iff_lt_mul hpd,←abY];exact hx'
 have hb:y*2^(64-d)%18446744073709551616=2^(64-d)*(y%2^d):=by
  conv=>lhs;rw[e64]
  rw[Nat.mul_mod_mul_right,Nat.mul_comm]
 have hr:y%2^d<2^d:=Nat.mod_lt _ hpd
 have hsum:2^(64-d)*(y%2^d)+x/2^d<18446744073709551616:=by
  have:2^(64-d)*(y%2^d)≤2^(64-d)*(2^d-1):=Nat.mul_le_mul_left _ (by omega)
  rw[Nat.mul_sub,←abY,Nat.mul_one]at this
  have h2:2^(64-d)≤18446744073709551616:=by rw[abY];exact Nat.le_mul_of_pos_right _ hpd
  omega
 have e1:((x:Int)/2^d)=((x/2^d:Nat):Int):=by simp
 have e2:IntKind.u64.wrap ((y:Int)*2^(64-d))=((2^(64-d)*(y%2^d):Nat):Int):=by
  rw[IntKind.wrap_u64,←hb];simp
 rw[e1,e2,bits_or_u64_nat _ _ (by omega) (by omega),Nat.or_comm,←Nat.two_pow_add_eq_or_of_lt ha]
 have e3:((x:Int)+18446744073709551616*(y:Int))/2^d%18446744073709551616=(((x+18446744073709551616*y)/2^d%18446744073709551616:Nat):Int):=by simp
 rw[e3]
 congr 1
 conv=>rhs;rw[e64,Nat.mul_assoc,Nat.add_mul_div_left _ _ hpd]
 rw[←e64]
 have hq:y=2^d*(y/2^d)+y%2^d:=(Nat.div_add_mod y (2^d)).symm
 have e4:x/2^d+2^(64-d)*y=(2^(64-d)*(y%2^d)+x/2^d)+18446744073709551616*(y/2^d):=by
  rw[abY]
  conv=>lhs;rw[hq]
  rw[Nat.mul_add,Nat.mul_assoc]
  omega
 rw[e4,Nat.add_mul_mod_self_left,Nat.mod_eq_of_lt hsum]
theorem WE(z y N:Int)(d:Nat)(hd:d≤63)(hz0:0≤z)(hz:z<18446744073709551616)(hN: ∃M,N=y+18446744073709551616*M):
 (z+18446744073709551616*y)/2^d%18446744073709551616+18446744073709551616*(N/2^d)=(z+18446744073709551616*N)/2^d:=by
 obtain⟨M,rfl⟩:=hN
 have hpd:(0:Int)<2^d:=Int.pow_pos (by omega)
 have hpe:(0:Int)<2^(64-d):=Int.pow_pos (by omega)
 have e64:(18446744073709551616:Int)=2^d*2^(64-d):=by rw[←Int.pow_add,show d+(64-d)=64 by omega];rfl
 have hz':z/2^d<2^(64-d):=by rw[Int.ediv_lt_iff_lt_mul hpd,Int.mul_comm,←e64];exact hz
 have aA2:0≤z/2^d:=Int.ediv_nonneg hz0 (by omega)
 generalize hD:(2:Int)^d=D at*
 generalize hE:(2:Int)^(64-d)=E at*
 have a1: ∀t,(z+18446744073709551616*t)/D=z/D+E*t:=by
  intro t;rw[e64,Int.mul_assoc,Int.add_mul_ediv_left _ _ (by omega)]
 have a2:(y+18446744073709551616*M)/D=y/D+E*M:=by rw[e64,Int.mul_assoc,Int.add_mul_ediv_left _ _ (by omega)]
 rw[a1,a1,a2]
 have hy:=Int.mul_ediv_add_emod y D
 have hr0:0≤y%D:=Int.emod_nonneg _ (by omega)
 have hr1:y%D<D:=Int.emod_lt_of_pos _ hpd
 generalize y/D=q at*
 generalize y%D=r at*
 generalize z/D=u at*
 have b1:u+E*y=(u+E*r)+18446744073709551616*q:=by rw[e64,←hy];grind
 have b2:0≤u+E*r:=by have:=Int.mul_nonneg (Int.le_of_lt hpe) hr0;omega
 have b3:u+E*r<18446744073709551616:=by
  have:=Int.mul_le_mul_of_nonneg_left (show r≤D-1 by omega) (Int.le_of_lt hpe)
  rw[Int.mul_sub,Int.mul_comm E D,←e64]at this
  omega
 rw[b1,Int.add_mul_emod_self_left,Int.emod_eq_of_lt b2 b3,e64,←hy]
 grind
theorem api(zs:List Int): ∃M,nv zs=gd zs 0+18446744073709551616*M:=by
 cases zs with
 |nil=>exact⟨0,rfl⟩
 |cons z zs=>exact⟨nv zs,by simp[nv,gd,pw]⟩
theorem aun(d:Nat)(hd:d≤63): ∀(zs L:List Int),Wd zs→L.length=zs.length→
 (∀j,j<zs.length→gd L j=(gd zs j+18446744073709551616*gd zs (j+1))/2^d%18446744073709551616)→nv L=nv zs/2^d:=by
 intro zs
 induction zs with
 |nil=>intro L _ hl _;have:L=[]:=List.length_eq_zero_iff.1 (by simpa using hl)
       subst this;simp[nv]
 |cons z zs ih=>
  intro L hw hl hL
  cases L with
  |nil=>simp at hl
  |cons x L=>
   have hw':=oI.1 hw
   have h1:=ih L hw'.2 (by simpa using hl) (fun j hj=>by have:=hL (j+1) (by simpa using hj);simpa [lJ]using this)
   have h2:=hL 0 (by simp)
   rw[kP,kP,lJ]at h2
   simp only[nv,h1,h2]
   exact WE z (gd zs 0) (nv zs) d hd hw'.1.1 hw'.1.2 (api zs)
theorem IG{zs:List Int}(hw:Wd zs)(s:Nat)(hs:s≤zs.length):nv zs/pw^s=nv (zs.drop s):=by
 have h1:=gy zs s hs
 have h2:=dw (eP hw s)
 have h3:=jb (eP hw s)
 rw[List.length_take,Nat.min_eq_left hs]at h3
 rw[h1,Int.add_mul_ediv_left _ _ (by have:=ji s;omega),Int.ediv_eq_zero_of_lt h2 h3]
 omega
theorem Oa(zs:List Int)(s j:Nat):gd (zs.drop s) j=gd zs (s+j):=by simp[gd]
def shw(zs:List Int)(s d j:Nat):Int:=(gd zs (j+s)+18446744073709551616*gd zs (j+s+1))/2^d%18446744073709551616
theorem aiB(zs:List Int)(s d j:Nat):0≤shw zs s d j∧shw zs s d j<pw:=⟨Int.emod_nonneg _ (by omega),Int.emod_lt_of_pos _ (by omega)⟩
theorem aiC{zs L:List Int}(hw:Wd zs)(s d m:Nat)(hd:d≤63)(hz:zs.length=s+m)(hl:L.length=m)(hL: ∀j,j<m→gd L j=shw zs s d j):nv L=nv zs/2^(64*s+d):=by
 have h1:=aun d hd (zs.drop s) L (kU hw s) (by simp;omega) (fun j hj=>by
  rw[hL j (by simp at hj;omega),Oa,Oa];unfold shw;rw[Nat.add_comm s j,show s+(j+1)=j+s+1 by omega])
 rw[h1,←IG hw s (by omega),lI,Int.ediv_ediv_of_nonneg (Int.le_of_lt (Int.pow_pos (by omega))),←Int.pow_add]
theorem awx{L:List Int}(f:Nat→Int)(hf: ∀j,0≤f j∧f j<pw)(hL: ∀j,j<L.length→gd L j=f j):Wd L:=by
 intro z hz
 obtain⟨j,hj,rfl⟩:=List.mem_iff_getElem.1 hz
 have:=hL j hj
 rw[gK hj]at this
 rw[this];exact hf j
theorem qG{w:World}{g off cap:Nat}{L:List Int}(hr:Row w g off L)(hg:g<w.heap.size)(hy:Ty w g)(hw:Wd L)(hc:L.length≤cap)(m:Nat)(hm:m≤L.length)(h1:m≠0→gd L (m-1)≠0)(h2: ∀j,m≤j→gd L j=0):
 Nt w (Gt ⟨g,off,none⟩ cap m) (nv L):=by
 unfold Gt
 have hz: ∀zs:List Int,(∀j,gd zs j=0)→nv zs=0:=by
  intro zs
  induction zs with
  |nil=>intro _;rfl
  |cons z zs ih=>intro h;have a:=h 0;rw[kP]at a;simp only[nv,a,ih (fun j=>by have:=h (j+1);rwa [lJ]at this)];simp
 have hd:nv (L.drop m)=0:=hz _ (fun j=>by rw[Oa];exact h2 _ (by omega))
 have hv:nv L=nv (L.take m):=by rw[gy L m hm,hd];simp
 have gt: ∀j,j<m→gd (L.take m) j=gd L j:=by intro j hj;simp[gd,List.getElem?_take,hj]
 by_cases h0:m=0
 ·rw[if_pos h0,hv,h0];exact Nt.zero w
 ·rw[if_neg h0]
  have hlen:(L.take m).length=m:=by simp;omega
  refine .inr ⟨g,off,cap,L.take m,by rw[hlen],⟨by omega,by omega,hg,eP hw m,?_,hv.symm,?_,hy⟩⟩
  ·rw[hlen,gt _ (by omega)];exact h1 h0
  ·intro j hj
   rw[hr j (by omega),gt j (by omega)]
end Go.Proofs.YtnapiakfbihnjaaGreatDoor
namespace Go.Proofs.YtnapiakfbihnjaaGreatDoor
open Go.RowKit Go.Shelf Tryz
def aiA(g:Nat)(zs:List Int)(s d m i:Nat)(w:World):Prop:= ∃L:List Int,L.length=m∧(∀j,j<i→gd L j=shw zs s d j)∧bH w g L
theorem MG(w:World)(ao:Option Addr)(la ca:Nat)(hl:la≤1000):
 Calls prog 193 #[.slice ao la ca,.int .i64 0] w fun e w'=>e=.returned (.slice ao la ca)∧w=w':=by
 go_enter func193,ntmps193
 go_wp2_with fail
 go_ret
 exact⟨rfl,rfl⟩
theorem MH(w:World)(ao:Option Addr)(la ca k:Nat)(hl:la≤1000)(hk:k<1000000000)(h0:0<k)(hs:la≤k/64):
 Calls prog 193 #[.slice ao la ca,.int .i64 k] w fun e w'=>e=.returned (.slice none 0 0)∧w=w':=by
 have hb:((k:Int)==0)=false:=by simp;omega
 go_enter func193,ntmps193
 go_wp2_with fail
 go_ret
 exact⟨rfl,rfl⟩
theorem abX(w:World)(b off cap:Nat)(zs:List Int)(n:Int)(h:Ns w b off cap zs n)(hn:n<big)(k:Nat)(hk:k<1000000000)(h0:0<k)(hs:k/64<zs.length):
 Calls prog 193 #[.slice (some ⟨b,off,none⟩) zs.length cap,.int .i64 k] w (bf w (n/2^k)):=by
 have hb:((k:Int)==0)=false:=by simp;omega
 obtain⟨s,hs'⟩: ∃s,k/64=s:=⟨_,rfl⟩
 obtain⟨d,hd'⟩: ∃d,k%64=d:=⟨_,rfl⟩
 have e1:(k:Int)/64=s:=by omega
 have e2:(k:Int)%64=d:=by omega
 have Uy:d≤63:=by omega
 have HS:Hid (k/64=s):=h_ hs'
 have HD:Hid (k%64=d):=h_ hd'
 rw[hs']at hs
 clear hs' hd'
 have hl:=h.len hn
 have hcap:=h.cap
 have H:=h_ h
 have HB:=h_ hn
 clear h hn
 obtain⟨l,hl'⟩: ∃l,zs.length=l:=⟨_,rfl⟩
 have HL:=h_ hl'
 rw[hl']at hl hcap hs⊢
 clear hl'
 obtain⟨m,rfl⟩: ∃m,l=s+m:=⟨l-s,by omega⟩
 have hm0:0<m:=by omega
 clear hs
 obtain⟨i0,hi,hz0,hz1,hz2⟩:=info_parts wO
 go_enter func193,ntmps193
 go_wp2_with (at_make;refine wpList_make_full w rfl (.tmp 26) (.tmp 26) 43 rfl w.heap.size 24 i0 (.int .u64 0) 1 underlying43 hi hz0 hz1 .i64 .i64 _ _ m rfl rfl (by omega) (by omega) (by rw[hz2];omega) (by unfold maxLen;omega) (Nat.le_refl _) ?_;intro w1 hown hgrow;have hblk:=h_ (jV hown);have hbel:=h_ (gV hgrow);clear hown hgrow hi hz0 hz1 hz2)
 have hlt:=(H.out).lt
 have HLT:=h_ hlt
 clear hlt
 generalize hg:w.heap.size=g at hblk hbel
 have HG:=h_ hg
 clear hg
 go_loopw [30] (fun v wr=> ∃i:Nat,i≤m∧v=.int .i64 i∧Hid (aiA g zs s d m i wr∧Below g w wr)) (fun v _=>m-(intOf v).toNat)
 case atStart=>exact⟨0,Nat.zero_le _,rfl,h_ ⟨⟨_,List.length_replicate,fun j hj=>by omega,hblk.out⟩,hbel.out⟩⟩
 case round=>
  obtain⟨i,him,rfl,hr⟩:=hrel
  by_cases hlt:i<m
  ·obtain⟨L,hL,hj,hB⟩:=hr.out.1
   have hbw:=hr.out.2
   have cA:=(hbw.cell (p:=⟨b,off+(i+s),none⟩) (by have:=HLT.out;have:=HG.out;simp;omega)).trans (H.out.row (i+s) (by rw[HL.out];omega))
   have cO:=hB.cell i (by omega)
   have fO:=hB.frozen i
   have HJ:=h_ hj
   have HBk:=h_ hB
   have HBw:=h_ hbw
   have HLn:=h_ hL
   clear hr hj hB hbw hL
   go_wp2_with fail
   go_still_tail 20,(by kernel_rfl)
   have hns:Ns wr b off cap zs n:=H.out.below (by rw[HG.out];exact HBw.out)
   have x1:IntKind.i64.wrap ((i:Int)+s)=(i:Int)+s:=IntWalk.i64_in _ (by omega)
   have x2:(0:Int)≤(i:Int)+s:=by omega
   have x3:(i:Int)+s<(s:Int)+m:=by omega
   have x4:((i:Int)+s).toNat=i+s:=by omega
   have x5:IntKind.i64.wrap ((i:Int)+s+1)=(i:Int)+s+1:=IntWalk.i64_in _ (by omega)
   have x6:IntKind.u64.wrap (64-(d:Int))=64-(d:Int):=by rw[IntKind.wrap_u64];omega
   repeat still_step
   still_call ((JI wr.drew _ n b off cap zs (by rw[HL.out]) (hns.below ((aY.step wr 1).below _)) HB.out _ (by omega) (by omega)).mono fun _ _ h=>⟨h.1,h.2.symm⟩)
   clear hns
   repeat still_step
   refine wpStill_nil ?_
   change wpList _ _ _ _ _ wr.drew
   have HD1:Hid (aY wr wr.drew):=h_ (aY.step wr 1)
   have cO2:wr.drew.cell? ⟨g,i,none⟩=some (.int .u64 (gd L i)):=cO
   have fO2:wr.drew.frozen? ⟨g,i,none⟩=false:=fO
   generalize wr.drew=w2 at HD1 cO2 fO2⊢
   clear cA cO fO x1 x2 x3 x4 x5 x6
   go_wp2_with fail
   go_roundw
   case rel=>
    refine⟨i+1,by omega,by go_num,h_ ⟨⟨L.set i (shw zs s d i),by rw[List.length_set,HLn.out],?_,?_⟩,?_⟩⟩
    ·intro j hj
     by_cases e:j=i
     ·subst e;rw[oO (by rw[HLn.out];exact hlt)]
     ·rw[fD e,HJ.out j (by omega)]
    ·have e:=WC (gd zs (i+s)) (gd zs (i+s+1)) d Uy (aI H.out.wd _).1 (aI H.out.wd _).2 (aI H.out.wd _).1 (aI H.out.wd _).2
     rw[e]
     exact(HBk.out.Dp HD1.out).set i _
    ·exact gQ (HBw.out.trans (HD1.out.below _)) (Nat.le_refl _) _ _
   case measure=>simp[intOf]<;>omega
  ·have hie:i=m:=by omega
   subst hie
   clear hlt him
   go_wp2_with fail
   obtain⟨⟨L,hL,hj,hB⟩,hbw⟩:=hr.out
   have hwd:Wd L:=awx (shw zs s d) (aiB zs s d) (fun j h=>hj j (by omega))
   have HH:=h_ (And.intro hL (And.intro hj (And.intro hB (And.intro hbw hwd))))
   clear hL hj hB hbw hwd hr
   have hcut:=oC g 0 i L wr (by rw[HH.out.1];omega) (by rw[HH.out.1];exact Nat.le_refl _) HH.out.2.2.1.row
   rw[HH.out.1]at hcut
   refine hcut.mono ?_
   rintro e w' ⟨rfl,m',hm1,hm2,hm3,rfl⟩
   go_wp2_with fail
   go_ret
   refine⟨_,rfl,?_,by rw[HG.out];exact HH.out.2.2.2.1⟩
   have hnv:=aiC H.out.wd s d i Uy HL.out HH.out.1 HH.out.2.1
   rw[H.out.val,show 64*s+d=k by have:=HS.out;have:=HD.out;omega]at hnv
   rw[←hnv]
   exact qG HH.out.2.2.1.row HH.out.2.2.1.lt HH.out.2.2.1.ty HH.out.2.2.2.2 (by rw[HH.out.1];exact Nat.le_refl _) m' hm1 hm2 hm3
theorem AY(w:World)(v:Value)(n:Int)(h:Nt w v n)(hn:n<big)(k:Int)(hk0:0≤k)(hk:k<1000000000):
 Calls prog 193 #[v,.int .i64 k] w (bf w (n/2^k.toNat)):=by
 obtain⟨k,rfl⟩:=Int.eq_ofNat_of_zero_le hk0
 rw[Int.toNat_natCast]
 by_cases h0:k=0
 ·subst h0
  have:n/2^0=n:=by simp
  rw[this]
  rcases h with⟨rfl,rfl⟩|⟨b,off,cap,zs,rfl,h⟩
  ·refine(MG w _ _ _ (by omega)).mono ?_
   rintro e w' ⟨rfl,rfl⟩
   exact⟨_,rfl,Nt.zero _,Below.refl _ _⟩
  ·refine(MG w _ _ _ (h.len hn)).mono ?_
   rintro e w' ⟨rfl,rfl⟩
   exact⟨_,rfl,h.nt,Below.refl _ _⟩
 ·rcases h with⟨rfl,rfl⟩|⟨b,off,cap,zs,rfl,h⟩
  ·refine(MH w _ _ _ k (by omega) (by omega) (by omega) (by omega)).mono ?_
   rintro e w' ⟨rfl,rfl⟩
   exact⟨_,rfl,by simpa using Nt.zero w,Below.refl _ _⟩
  ·by_cases hs:k/64<zs.length
   ·exact abX w b off cap zs n h hn k (by omega) (by omega) hs
   ·refine(MH w _ _ _ k (h.len hn) (by omega) (by omega) (by omega)).mono ?_
    rintro e w' ⟨rfl,rfl⟩
    refine⟨_,rfl,?_,Below.refl _ _⟩
    have h1:=jb h.wd
    rw[h.val]at h1
    have h2:pw^zs.length≤2^k:=by
     rw[lI]
     have:(2:Int)^(64*zs.length)*1≤2^(64*zs.length)*2^(k-64*zs.length):=Int.mul_le_mul_of_nonneg_left (show(1:Int)≤2^(k-64*zs.length)from Int.pow_pos (by omega)) (Int.le_of_lt (Int.pow_pos (by omega)))
     rw[←Int.pow_add,show 64*zs.length+(k-64*zs.length)=k by omega]at this
     omega
    rw[Int.ediv_eq_zero_of_lt (Int.le_of_lt h.npos) (by omega)]
    exact Nt.zero w
theorem ad6(x y:Int)(d:Nat)(hd:d≤63)(hx0:0≤x)(hx:x<2^d)(hy0:0≤y)(hy:y<18446744073709551616):
 bits BinOp.or IntKind.u64 x (IntKind.u64.wrap (y*2^d))=x+y*2^d%18446744073709551616:=by
 obtain⟨x,rfl⟩:=Int.eq_ofNat_of_zero_le hx0
 obtain⟨y,rfl⟩:=Int.eq_ofNat_of_zero_le hy0
 have e64:18446744073709551616=2^(64-d)*2^d:=by rw[←Nat.pow_add,show 64-d+d=64 by omega]
 have hx':x<2^d:=by exact_mod_cast hx
 have hpd:0<2^d:=Nat.two_pow_pos d
 have h2:2^d≤18446744073709551616:=by rw[e64];exact Nat.le_mul_of_pos_left _ (Nat.two_pow_pos _)
 have hb:y*2^d%18446744073709551616=2^d*(y%2^(64-d)):=by
  conv=>lhs;rw[e64]
  rw[Nat.mul_mod_mul_right,Nat.mul_comm]
 have hlt:y*2^d%18446744073709551616<18446744073709551616:=Nat.mod_lt _ (by omega)
 have e2:IntKind.u64.wrap ((y:Int)*2^d)=((y*2^d%18446744073709551616:Nat):Int):=by
  rw[IntKind.wrap_u64];simp
 have e3:((y:Int)*2^d%18446744073709551616)=((y*2^d%18446744073709551616:Nat):Int):=by simp
 rw[e2,e3,bits_or_u64_nat _ _ (by omega) hlt,hb,Nat.or_comm,←Nat.two_pow_add_eq_or_of_lt hx']
 omega
structure Io(g:Nat)(zs:List Int)(s d n i:Nat)(w:World)(L:List Int):Prop where
 len:L.length=n
 wd:Wd L
 val:nv L=nv (zs.take i)*2^(64*s+d)
 low:gd L (i+s)<2^d
 high: ∀j,i+s<j→gd L j=0
 blk:bH w g L
theorem aa8{g:Nat}{zs:List Int}{s d n:Nat}{w:World}(h:bH w g (List.replicate n 0)):Io g zs s d n 0 w (List.replicate n 0):=by
 have hz: ∀j,gd (List.replicate n 0) j=0:=by intro j;simp[gd,List.getElem?_replicate];split<;>simp
 refine⟨List.length_replicate,fA n,by rw[iU];simp[nv],?_,fun j _=>hz j,h⟩
 rw[hz];exact Int.pow_pos (by omega)
theorem left_step{g:Nat}{zs:List Int}{s d n i:Nat}{w w2:World}{L:List Int}(hw:Wd zs)(hd:d≤63)(hi:i<zs.length)(hn:i+s+1<n)(h:Io g zs s d n i w L)
 (hB:bH w2 g ((L.set (i+s) (gd L (i+s)+gd zs i*2^d%18446744073709551616)).set (i+s+1) (gd zs i/2^(64-d)))):
 Io g zs s d n (i+1) w2 ((L.set (i+s) (gd L (i+s)+gd zs i*2^d%18446744073709551616)).set (i+s+1) (gd zs i/2^(64-d))):=by
 obtain⟨g0,g1⟩:=aI hw i
 have hpd:(0:Int)<2^d:=Int.pow_pos (by omega)
 have hpe:(0:Int)<2^(64-d):=Int.pow_pos (by omega)
 have e64:(18446744073709551616:Int)=2^(64-d)*2^d:=by rw[←Int.pow_add,show 64-d+d=64 by omega];rfl
 have hl:=h.low
 have hl0:=(nZ h.wd (i+s)).1
 have hz:=h.high (i+s+1) (by omega)
 generalize hx:gd L (i+s)=x at*
 generalize hy:gd zs i=y at*
 have q0:0≤y/2^(64-d):=Int.ediv_nonneg g0 (Int.le_of_lt hpe)
 have q1:y/2^(64-d)<2^d:=by rw[Int.ediv_lt_iff_lt_mul hpe,Int.mul_comm,←e64];exact g1
 have lo:y*2^d%18446744073709551616=(y%2^(64-d))*2^d:=by
  conv=>lhs;rw[e64]
  rw[Int.mul_comm y,Int.mul_comm (2^(64-d)),Int.mul_emod_mul_of_pos _ _ hpd,Int.mul_comm]
 have r0:0≤y%2^(64-d):=Int.emod_nonneg _ (by omega)
 have r1:y%2^(64-d)<2^(64-d):=Int.emod_lt_of_pos _ hpe
 have hyq:=Int.mul_ediv_add_emod y (2^(64-d))
 have b1:(y%2^(64-d))*2^d≤18446744073709551616-2^d:=by
  have:=Int.mul_le_mul_of_nonneg_right (show y%2^(64-d)≤2^(64-d)-1 by omega) (Int.le_of_lt hpd)
  rw[Int.sub_mul,←e64]at this
  omega
 have b0:0≤(y%2^(64-d))*2^d:=Int.mul_nonneg r0 (Int.le_of_lt hpd)
 have b2:(2:Int)^d≤18446744073709551616:=by
  rw[e64]
  have:=Int.mul_le_mul_of_nonneg_right (show(1:Int)≤2^(64-d)from hpe) (Int.le_of_lt hpd)
  omega
 have hlen:=h.len
 rw[lo]at hB⊢
 refine⟨by simp[hlen],?_,?_,?_,?_,hB⟩
 ·exact jY (jY h.wd ⟨by omega,by unfold pw;omega⟩) ⟨q0,by unfold pw;omega⟩
 ·rw[lV _ _ _ (by simp;omega),lV _ _ _ (by omega),fD (by omega),hx,hz,h.val,jP zs i hi,hy,Int.pow_succ,lI,lI,Int.pow_add 2 (64*s) d]
  have e1:(2:Int)^(64*(i+s))=2^(64*i)*2^(64*s):=by rw[←Int.pow_add];congr 1;omega
  rw[e1,show pw=18446744073709551616 from rfl,e64]
  conv=>rhs;rw[←hyq]
  grind
 ·rw[show i+1+s=i+s+1 by omega,oO (by simp;omega)];exact q1
 ·intro j hj
  rw[fD (by omega),fD (by omega)]
  exact h.high j (by omega)
theorem Ph(w:World)(ao:Option Addr)(la ca k:Nat)(hl:la≤1000)(hk:k<1000000000)(h:la=0∨k=0):
 Calls prog 130 #[.slice ao la ca,.int .i64 k] w fun e w'=>e=.returned (.slice ao la ca)∧w=w':=by
 by_cases h0:la=0
 ·subst h0
  go_enter func130,ntmps130
  go_wp2_with fail
  go_ret
  exact⟨rfl,rfl⟩
 ·obtain rfl:k=0:=by omega
  have hb:((la:Int)==0)=false:=by simp;omega
  go_enter func130,ntmps130
  go_wp2_with fail
  go_ret
  exact⟨rfl,rfl⟩
theorem ad8(w:World)(b off cap:Nat)(zs:List Int)(n:Int)(h:Ns w b off cap zs n)(hn:n<big)(k:Nat)(hk:k<1000000000)(h0:0<k):
 Calls prog 130 #[.slice (some ⟨b,off,none⟩) zs.length cap,.int .i64 k] w (bf w (n*2^k)):=by
 have hb:((k:Int)==0)=false:=by simp;omega
 obtain⟨s,hs'⟩: ∃s,k/64=s:=⟨_,rfl⟩
 obtain⟨d,hd'⟩: ∃d,k%64=d:=⟨_,rfl⟩
 have e1:(k:Int)/64=s:=by omega
 have e2:(k:Int)%64=d:=by omega
 have Uy:d≤63:=by omega
 have HS:Hid (k/64=s):=h_ hs'
 have HD:Hid (k%64=d):=h_ hd'
 have hsk:s≤k:=by omega
 clear hs' hd'
 have hl:=h.len hn
 have hcap:=h.cap
 have hpos:=h.pos
 have HLT:=h_ h.lt
 have H:=h_ h
 clear h hn
 obtain⟨l,hl'⟩: ∃l,zs.length=l:=⟨_,rfl⟩
 have HL:=h_ hl'
 rw[hl']at hl hcap hpos⊢
 clear hl'
 have hb2:((l:Int)==0)=false:=by simp;omega
 obtain⟨i0,hi,hz0,hz1,hz2⟩:=info_parts wO
 go_enter func130,ntmps130
 go_wp2_with (at_make;refine wpList_make_full w rfl (.tmp 27) (.tmp 27) 43 rfl w.heap.size 24 i0 (.int .u64 0) 1 underlying43 hi hz0 hz1 .i64 .i64 _ _ (l+s+1) rfl rfl (by omega) (by omega) (by rw[hz2];omega) (by unfold maxLen;omega) (Nat.le_refl _) ?_;intro w1 hown hgrow;have hblk:=h_ (jV hown);have hbel:=h_ (gV hgrow);clear hown hgrow hi hz0 hz1 hz2)
 generalize hg:w.heap.size=g at hblk hbel
 have HG:=h_ hg
 clear hg
 go_loopw [31] (fun v wr=> ∃i:Nat,i≤l∧v=.int .i64 i∧Hid (Below g w wr∧ ∃L,Io g zs s d (l+s+1) i wr L)) (fun v _=>l-(intOf v).toNat)
 case atStart=>exact⟨0,Nat.zero_le _,rfl,h_ ⟨hbel.out,_,aa8 hblk.out⟩⟩
 case round=>
  obtain⟨i,him,rfl,hr⟩:=hrel
  by_cases hlt:i<l
  ·obtain⟨hbw,L,hL⟩:=hr.out
   have cA:=(hbw.cell (p:=⟨b,off+i,none⟩) (by have:=HLT.out;have:=HG.out;simp;omega)).trans (H.out.row i (by rw[HL.out];omega))
   have cO:=hL.blk.cell (i+s) (by rw[hL.len];omega)
   have fO:=hL.blk.frozen (i+s)
   have cO2:=hL.blk.cell (i+s+1) (by rw[hL.len];omega)
   have fO2:=hL.blk.frozen (i+s+1)
   have HI:=h_ hL
   have HBw:=h_ hbw
   clear hr hL hbw
   have x4:((i:Int)+s).toNat=i+s:=by omega
   have x5:((i:Int)+s+1).toNat=i+s+1:=by omega
   go_wp2_with fail
   go_roundw
   case rel=>
    have e:=ad6 (gd L (i+s)) (gd zs i) d Uy (nZ HI.out.wd _).1 HI.out.low (aI H.out.wd _).1 (aI H.out.wd _).2
    rw[e]
    refine⟨i+1,by omega,by go_num,h_ ⟨gQ (gQ HBw.out (Nat.le_refl _) _ _) (Nat.le_refl _) _ _,_,left_step H.out.wd Uy (by rw[HL.out];omega) (by omega) HI.out ((HI.out.blk.set _ _).set _ _)⟩⟩
   case measure=>simp[intOf]<;>omega
  ·have hie:i=l:=by omega
   subst hie
   clear hlt him
   obtain⟨hbw,L,hL⟩:=hr.out
   have HH:=h_ hL
   have HBw:=h_ hbw
   clear hr hL hbw
   have hcut:=oC g 0 (i+s+1) L wr (by rw[HH.out.len];omega) (by rw[HH.out.len];exact Nat.le_refl _) HH.out.blk.row
   rw[HH.out.len]at hcut
   have HC:=h_ hcut
   clear hcut
   go_wp2_with fail
   refine HC.out.mono ?_
   rintro e w' ⟨rfl,m',hm1,hm2,hm3,rfl⟩
   go_wp2_with fail
   go_ret
   refine⟨_,rfl,?_,by rw[HG.out];exact HBw.out⟩
   have hnv:=HH.out.val
   rw[show zs.take i=zs by rw[←HL.out,List.take_length],H.out.val,show 64*s+d=k by have:=HS.out;have:=HD.out;omega]at hnv
   rw[←hnv]
   exact qG HH.out.blk.row HH.out.blk.lt HH.out.blk.ty HH.out.wd (by rw[HH.out.len];exact Nat.le_refl _) m' hm1 hm2 hm3
theorem nT(w:World)(v:Value)(n:Int)(h:Nt w v n)(hn:n<big)(k:Int)(hk0:0≤k)(hk:k<1000000000):
 Calls prog 130 #[v,.int .i64 k] w (bf w (n*2^k.toNat)):=by
 obtain⟨k,rfl⟩:=Int.eq_ofNat_of_zero_le hk0
 rw[Int.toNat_natCast]
 rcases h with⟨rfl,rfl⟩|⟨b,off,cap,zs,rfl,h⟩
 ·refine(Ph w _ _ _ k (by omega) (by omega) (.inl rfl)).mono ?_
  rintro e w' ⟨rfl,rfl⟩
  exact⟨_,rfl,by simpa using Nt.zero w,Below.refl _ _⟩
 ·by_cases h0:k=0
  ·subst h0
   refine(Ph w _ _ _ 0 (h.len hn) (by omega) (.inr rfl)).mono ?_
   rintro e w' ⟨rfl,rfl⟩
   exact⟨_,rfl,by simpa using h.nt,Below.refl _ _⟩
  ·exact ad8 w b off cap zs n h hn k (by omega) (by omega)
theorem dE(zs:List Int)(n:Nat):nv (zs.take (n+1))=nv (zs.take n)+pw^n*gd zs n:=by
 by_cases h:n<zs.length
 ·exact jP zs n h
 ·rw[List.take_of_length_le (by omega),List.take_of_length_le (by omega),iL (by omega)];simp
structure awy(w:World)(v:Value)(n:Int)(zs:List Int):Prop where
 wd:Wd zs
 val:nv zs=n
 len:zs.length≤1000
 call: ∀w':World,Below w.heap.size w w'→ ∀i:Int,0≤i→i<1000000000→Calls prog 221 #[v,.int .i64 i] w' fun e w''=>e=.returned (.int .u64 (gd zs i.toNat))∧w'=w''
theorem Nt.awz{w:World}{v:Value}{n:Int}(h:Nt w v n)(hn:n<big): ∃zs,awy w v n zs:=by
 rcases h with⟨rfl,rfl⟩|⟨b,off,cap,zs,rfl,h⟩
 ·exact⟨[],qR,rfl,by simp,fun w' _ i h0 h1=>by simpa [gd]using Ux w' i h0 h1⟩
 ·exact⟨zs,h.wd,h.val,h.len hn,fun w' hw i h0 h1=>JI w' _ n b off cap zs rfl (h.below hw) hn i h0 h1⟩
structure MI(g:Nat)(za zb:List Int)(n i:Nat)(w:World)(br:Int)(L:List Int):Prop where
 len:L.length=n
 wd:Wd L
 val:nv L=nv (za.take i)-nv (zb.take i)+pw^i*br
 high: ∀j,i≤j→gd L j=0
 blk:bH w g L
theorem nS(n j:Nat):gd (List.replicate n 0) j=0:=by simp[gd,List.getElem?_replicate];split<;>simp
theorem afL{g:Nat}{za zb:List Int}{n:Nat}{w:World}(h:bH w g (List.replicate n 0)):MI g za zb n 0 w 0 (List.replicate n 0):=
 ⟨List.length_replicate,fA n,by rw[iU];simp[nv],fun j _=>nS n j,h⟩
theorem aiD{g:Nat}{za zb:List Int}{n i:Nat}{w w2:World}{br:Int}{L:List Int}(ha:Wd za)(hb:Wd zb)(hbr:0≤br∧br≤1)(hn:i<n)(h:MI g za zb n i w br L)
 (hB:bH w2 g (L.set i ((gd za i-gd zb i-br)%18446744073709551616))):
 MI g za zb n (i+1) w2 (pU (gd za i) (gd zb i+br)) (L.set i ((gd za i-gd zb i-br)%18446744073709551616)):=by
 obtain⟨a0,a1⟩:=aI ha i
 obtain⟨b0,b1⟩:=aI hb i
 have e:=Lc (gd za i) (gd zb i+br) a0 a1 (by omega) (by omega)
 rw[show gd za i-(gd zb i+br)=gd za i-gd zb i-br by omega]at e
 refine⟨by simp[h.len],jY h.wd ⟨Int.emod_nonneg _ (by omega),Int.emod_lt_of_pos _ (by omega)⟩,?_,?_,hB⟩
 ·rw[lV _ _ _ (by rw[h.len];exact hn),h.high i (Nat.le_refl _),h.val,dE,dE,Int.pow_succ,show pw=18446744073709551616 from rfl]
  generalize pU (gd za i) (gd zb i+br)=c at*
  generalize (gd za i-gd zb i-br)%18446744073709551616=r at*
  have:r=gd za i-gd zb i-br+18446744073709551616*c:=by omega
  rw[this];grind
 ·intro j hj
  rw[fD (by omega)]
  exact h.high j (by omega)
theorem aiE(w:World)(b off cap:Nat)(za:List Int)(vb:Value)(x y:Int)(ha:Ns w b off cap za x)(hb:Nt w vb y)(hx:x<big)(hy:y≤x):
 Calls prog 191 #[.slice (some ⟨b,off,none⟩) za.length cap,vb] w (bf w (x-y)):=by
 obtain⟨zb,hz⟩:=hb.awz (by omega)
 have HZ:=h_ hz
 have hl:=ha.len hx
 have hcap:=ha.cap
 have HLT:=h_ ha.lt
 have H:=h_ ha
 have HY:=h_ hy
 clear ha hb hz hx hy
 obtain⟨l,hl'⟩: ∃l,za.length=l:=⟨_,rfl⟩
 have HL:=h_ hl'
 rw[hl']at hl hcap⊢
 clear hl'
 obtain⟨i0,hi,hz0,hz1,hz2⟩:=info_parts wO
 go_enter func191,ntmps191
 go_wp2_with (at_make;refine wpList_make_full w rfl (.tmp 10) (.tmp 10) 43 rfl w.heap.size 24 i0 (.int .u64 0) 1 underlying43 hi hz0 hz1 .i64 .i64 _ _ l rfl rfl (by omega) (by omega) (by rw[hz2];omega) (by unfold maxLen;omega) (Nat.le_refl _) ?_;intro w1 hown hgrow;have hblk:=h_ (jV hown);have hbel:=h_ (gV hgrow);clear hown hgrow hi hz0 hz1 hz2)
 generalize hg:w.heap.size=g at hblk hbel
 have HG:=h_ hg
 clear hg
 go_loopw [6,14] (fun u v wr=> ∃(i:Nat) (br:Int),i≤l∧0≤br∧br≤1∧u=.int .u64 br∧v=.int .i64 i∧Hid (Below g w wr∧ ∃L,MI g za zb l i wr br L)) (fun _ v _=>l-(intOf v).toNat)
 case atStart=>exact⟨0,0,Nat.zero_le _,by omega,by omega,rfl,rfl,h_ ⟨hbel.out,_,afL hblk.out⟩⟩
 case round=>
  obtain⟨i,br,him,br0,br1,rfl,rfl,hr⟩:=hrel
  by_cases hlt:i<l
  ·obtain⟨hbw,L,hL⟩:=hr.out
   have cA:=(hbw.cell (p:=⟨b,off+i,none⟩) (by have:=HLT.out;have:=HG.out;simp;omega)).trans (H.out.row i (by rw[HL.out];omega))
   have cO:=hL.blk.cell i (by rw[hL.len];omega)
   have fO:=hL.blk.frozen i
   have HI:=h_ hL
   have HBw:=h_ hbw
   obtain⟨a0,a1⟩:=aI H.out.wd i
   obtain⟨b0,b1⟩:=aI HZ.out.wd i
   clear hr hL hbw
   have HC:=h_ (HZ.out.call wr (by rw[HG.out];exact HBw.out) (i:Int) (by omega) (by omega))
   rw[Int.toNat_natCast]at HC
   go_wp2_with (first|(go_at_call 221;refine HC.out.mono ?_;rintro e w' ⟨rfl,rfl⟩)|simp only[aas (gd za i) (gd zb i) br a0 b0 b1 br0 br1])
   go_roundw
   case rel=>
    have Ny:=uM (gd za i) (gd zb i+br)
    refine⟨i+1,_,by omega,Ny.1,Ny.2,rfl,by go_num,h_ ⟨gQ HBw.out (Nat.le_refl _) _ _,_,aiD H.out.wd HZ.out.wd ⟨br0,br1⟩ hlt HI.out (HI.out.blk.set _ _)⟩⟩
   case measure=>simp[intOf]<;>omega
  ·have hie:i=l:=by omega
   subst hie
   clear hlt him
   obtain⟨hbw,L,hL⟩:=hr.out
   have HH:=h_ hL
   have HBw:=h_ hbw
   clear hr hL hbw
   have hcut:=oC g 0 i L wr (by rw[HH.out.len];omega) (by rw[HH.out.len];exact Nat.le_refl _) HH.out.blk.row
   rw[HH.out.len]at hcut
   have HC:=h_ hcut
   clear hcut
   go_wp2_with fail
   refine HC.out.mono ?_
   rintro e w' ⟨rfl,m',hm1,hm2,hm3,rfl⟩
   go_wp2_with fail
   go_ret
   refine⟨_,rfl,?_,by rw[HG.out];exact HBw.out⟩
   have hnv:=HH.out.val
   rw[show za.take i=za by rw[←HL.out,List.take_length],H.out.val]at hnv
   have hzb:nv (zb.take i)=y:=by
    have h1:zb.length≤i∨i<zb.length:=by omega
    rcases h1 with h1|h1
    ·rw[List.take_of_length_le h1,HZ.out.val]
    ·have t1:=gy zb i (by omega)
     have t2:=dw (kU HZ.out.wd i)
     have t3:=dw (eP HZ.out.wd i)
     have t4:=jb H.out.wd
     rw[HL.out,H.out.val]at t4
     have t5:=HY.out
     have t6:=HZ.out.val
     have t7:=ji i
     have:nv (zb.drop i)=0:=by
      apply Classical.byContradiction
      intro hne
      have:=Int.mul_le_mul_of_nonneg_left (show 1≤nv (zb.drop i)by omega) (Int.le_of_lt t7)
      omega
     rw[this]at t1
     omega
   rw[hzb]at hnv
   have hbr:br=0:=by
    apply Classical.byContradiction
    intro hne
    have:br=1:=by omega
    subst this
    have t1:=jb HH.out.wd
    rw[HH.out.len]at t1
    have t5:=HY.out
    omega
   rw[hbr]at hnv
   rw[show x-y=nv L by rw[hnv];omega]
   exact qG HH.out.blk.row HH.out.blk.lt HH.out.blk.ty HH.out.wd (by rw[HH.out.len];exact Nat.le_refl _) m' hm1 hm2 hm3
def Only(g:Nat)(w w':World):Prop:=w.grownBy w' (some g)
theorem Only.refl(g:Nat)(w:World):Only g w w:=World.grownBy.refl w (some g)
theorem Only.cell{g:Nat}{w w':World}(h:Only g w w'){b off:Nat}{v:Value}(hv:w.cell? ⟨b,off,none⟩=some v)(hne:b≠g):w'.cell? ⟨b,off,none⟩=some v:=
 World.grownBy.cell h hv (by simp;exact hne)
theorem Only.set{g:Nat}{w w':World}(h:Only g w w')(i:Nat)(u:Value):Only g w (w'.setCell ⟨g,i,none⟩ u):=
 ⟨h.os,h.tape,h.output,by simpa using h.size,fun k hk hne=>by
  rw[Below.heap_setCell _ _ _ _ (fun e=>hne (by rw[e]))]
  exact h.block k hk hne⟩
theorem Only.below{g B:Nat}{w w':World}(h:Only g w w')(hB:B≤w.heap.size)(hg:B≤g):Below B w w':=
 (Below.refl B w).grown h hB (fun k hk=>by cases hk;exact hg)
structure Di(g o:Nat)(M zb:List Int)(hi i:Nat)(w:World)(c:Int)(M':List Int):Prop where
 len:M'.length=M.length
 wd:Wd M'
 val:nv M'=nv M+pw^o*nv (zb.take i)-pw^(o+i)*c
 same: ∀j,j<o∨o+hi≤j→gd M' j=gd M j
 blk:bH w g M'
theorem adf{g o:Nat}{M zb:List Int}{w:World}(h:bH w g M)(hM:Wd M):Di g o M zb 0 0 w 0 M:=
 ⟨rfl,hM,by simp[nv],fun j _=>rfl,h⟩
theorem Sj{g o:Nat}{M zb M':List Int}{i hi hi':Nat}{w w2:World}{c:Int}(hb:Wd zb)(hc:0≤c∧c≤1)(hi0:hi≤hi')(hi1:i<hi')(hn:o+i<M.length)(h:Di g o M zb hi i w c M')
 (hB:bH w2 g (M'.set (o+i) ((gd M' (o+i)+gd zb i+c)%18446744073709551616))):
 Di g o M zb hi' (i+1) w2 ((gd M' (o+i)+gd zb i+c)/18446744073709551616) (M'.set (o+i) ((gd M' (o+i)+gd zb i+c)%18446744073709551616)):=by
 refine⟨by simp[h.len],jY h.wd ⟨Int.emod_nonneg _ (by omega),Int.emod_lt_of_pos _ (by omega)⟩,?_,?_,hB⟩
 ·rw[lV _ _ _ (by rw[h.len];exact hn),h.val,dE,show o+(i+1)=o+i+1 by omega,Int.pow_succ,Int.pow_add,show pw=18446744073709551616 from rfl]
  have e:=Int.mul_ediv_add_emod (gd M' (o+i)+gd zb i+c) 18446744073709551616
  generalize (gd M' (o+i)+gd zb i+c)/18446744073709551616=q at*
  generalize (gd M' (o+i)+gd zb i+c)%18446744073709551616=r at*
  have:r=gd M' (o+i)+gd zb i+c-18446744073709551616*q:=by omega
  rw[this];grind
 ·intro j hj
  rw[fD (by omega)]
  exact h.same j (by omega)
def Dh(w:World)(g o n:Nat)(M:List Int)(y:Int)(e:Ending)(w':World):Prop:=
 ∃(c:Int) (M':List Int),0≤c∧c≤1∧e=.returned (.int .u64 c)∧Only g w w'∧M'.length=M.length∧Wd M'∧nv M'=nv M+pw^o*y-pw^(o+n)*c∧(∀j,j<o∨o+n≤j→gd M' j=gd M j)∧bH w' g M'
theorem adk(w:World)(g o n cap:Nat)(M:List Int)(hB:bH w g M)(hM:Wd M):
 Calls prog 231 #[.slice (some ⟨g,o,none⟩) n cap,.slice none 0 0] w (Dh w g o n M 0):=by
 have H:=h_ (And.intro hB hM)
 clear hB hM
 have h0:((0:Int) !=0)=false:=rfl
 go_enter func231,ntmps231
 go_wp2
 refine wp_loop_rounds 1 ?_
 rw[rounds_succ]
 go_wp2
 refine wp_loop_rounds 1 ?_
 rw[rounds_succ]
 go_wp2
 go_ret
 exact⟨0,M,by omega,by omega,rfl,Only.refl _ _,rfl,H.out.2,by simp,fun _ _=>rfl,H.out.1⟩
theorem KZ(w:World)(g o n cap:Nat)(M:List Int)(hB:bH w g M)(hM:Wd M)(hon:o+n≤M.length)(hMl:M.length≤10000)(b off cap2:Nat)(zb:List Int)(hl:zb.length≤n)(hcap:zb.length≤cap2)
 (hwd:Wd zb) (hr:Row w b off zb) (hne:b≠g):
 Calls prog 231 #[.slice (some ⟨g,o,none⟩) n cap,.slice (some ⟨b,off,none⟩) zb.length cap2] w (Dh w g o n M (nv zb)):=by
 have HM:=h_ (And.intro hB hM)
 have HW:=h_ hwd
 have HR:=h_ hr
 clear hB hM hwd hr
 obtain⟨m,hm⟩: ∃m,M.length=m:=⟨_,rfl⟩
 have Hm:=h_ hm
 rw[hm]at hon hMl
 clear hm
 obtain⟨l,hl'⟩: ∃l,zb.length=l:=⟨_,rfl⟩
 have HL:=h_ hl'
 rw[hl']at hl hcap⊢
 clear hl'
 have HF: ∀(k:Nat) (c:Int) (wr:World),l≤k→k≤n→0≤c→c≤1→(c=0∨k=n)→Hid (Only g w wr∧ ∃M',Di g o M zb k k wr c M')→Dh w g o n M (nv zb) (.returned (.int .u64 c)) wr:=by
  intro k c wr h1 h2 h3 h4 h5 h6
  obtain⟨h7,M',h8⟩:=h6.out
  refine⟨c,M',h3,h4,rfl,h7,h8.len,h8.wd,?_,fun j hj=>h8.same j (by omega),h8.blk⟩
  rw[h8.val,List.take_of_length_le (by rw[HL.out];exact h1)]
  rcases h5 with rfl|rfl
  ·simp
  ·rfl
 have HFF:=h_ HF
 clear HF
 go_enter func231,ntmps231
 go_wp2_with fail
 go_loopw [5,11] (fun u v wr=> ∃(i:Nat) (c:Int),i≤l∧0≤c∧c≤1∧u=.int .u64 c∧v=.int .i64 i∧Hid (Only g w wr∧ ∃M',Di g o M zb i i wr c M')) (fun _ v _=>l-(intOf v).toNat)
 case atStart=>exact⟨0,0,Nat.zero_le _,by omega,by omega,rfl,rfl,h_ ⟨Only.refl _ _,_,adf HM.out.1 HM.out.2⟩⟩
 case round=>
  obtain⟨i,c,him,c0,c1,rfl,rfl,hr⟩:=hrel
  by_cases hlt:i<l
  ·obtain⟨qH,M',hI⟩:=hr.out
   have cA:=qH.cell (HR.out i (by rw[HL.out];omega)) hne
   have cO:=hI.blk.cell (o+i) (by rw[hI.len,Hm.out];omega)
   have fO:=hI.blk.frozen (o+i)
   have HI:=h_ hI
   have HO:=h_ qH
   obtain⟨a0,a1⟩:=aI hI.wd (o+i)
   obtain⟨b0,b1⟩:=aI HW.out i
   clear hr hI qH
   go_wp2_with (simp only[QC (gd M' (o+i)) (gd zb i) c a0 b0 c0 c1])
   go_roundw
   case rel=>exact⟨i+1,_,by omega,by omega,by omega,rfl,by go_num,h_ ⟨HO.out.set _ _,_,Sj HW.out ⟨c0,c1⟩ (by omega) (by omega) (by rw[Hm.out];omega) HI.out (HI.out.blk.set _ _)⟩⟩
   case measure=>simp[intOf]<;>omega
  ·have hie:i=l:=by omega
   subst hie
   clear hlt him
   go_wp2_with fail
   go_loopw [5,8] (fun u v wr=> ∃(k:Nat) (c:Int),i≤k∧k≤n∧0≤c∧c≤1∧u=.int .u64 c∧v=.int .i64 k∧Hid (Only g w wr∧ ∃M',Di g o M zb k k wr c M')) (fun _ v _=>n-(intOf v).toNat)
   case atStart=>exact⟨i,c,Nat.le_refl _,hl,c0,c1,rfl,rfl,hr⟩
   case round=>
    clear hr c0 c1
    obtain⟨k,c,hik,hkn,c0,c1,rfl,rfl,hr⟩:=hrel
    rcases(show c=0∨c=1 by omega)with rfl|rfl
    ·go_wp2_with fail
     go_ret
     exact HFF.out k 0 _ hik hkn (by omega) (by omega) (.inl rfl) hr
    ·by_cases hlt:k<n
     ·obtain⟨qH,M',hI⟩:=hr.out
      have cO:=hI.blk.cell (o+k) (by rw[hI.len,Hm.out];omega)
      have fO:=hI.blk.frozen (o+k)
      have HI:=h_ hI
      have HO:=h_ qH
      obtain⟨a0,a1⟩:=aI hI.wd (o+k)
      clear hr hI qH
      go_wp2_with (simp only[QC (gd M' (o+k)) 0 1 a0 (Int.le_refl 0) (by decide) (by decide)])
      go_roundw
      case rel=>
       have ez:gd zb k=0:=iL (by rw[HL.out];omega)
       have e0:gd M' (o+k)+gd zb k+1=gd M' (o+k)+1:=by rw[ez];omega
       have st:=Sj (hi':=k+1) HW.out ⟨c0,c1⟩ (by omega) (by omega) (by rw[Hm.out];omega) HI.out (HI.out.blk.set (o+k) ((gd M' (o+k)+gd zb k+1)%18446744073709551616))
       rw[e0]at st
       exact⟨k+1,_,by omega,by omega,by omega,by omega,rfl,by go_num,h_ ⟨HO.out.set _ _,_,st⟩⟩
      case measure=>simp[intOf]<;>omega
     ·go_wp2_with fail
      go_ret
      exact HFF.out k 1 _ hik hkn (by omega) (by omega) (.inr (by omega)) hr
def Apart(g:Nat)(v:Value):Prop:= ∀(a:Addr) (l c:Nat),v=.slice (some a) l c→a.block≠g
theorem OA(w:World)(g o n cap:Nat)(M:List Int)(hB:bH w g M)(hM:Wd M)(hon:o+n≤M.length)(hMl:M.length≤10000)(vb:Value)(y:Int)(hb:Nt w vb y)(hap:Apart g vb)(hy:y<pw^n):
 Calls prog 231 #[.slice (some ⟨g,o,none⟩) n cap,vb] w (Dh w g o n M y):=by
 rcases hb with⟨rfl,rfl⟩|⟨b,off,cap2,zb,rfl,hb⟩
 ·exact adk w g o n cap M hB hM
 ·have:=KZ w g o n cap M hB hM hon hMl b off cap2 zb (iI hb.wd hb.can hb.val hy) hb.cap hb.wd hb.row (hap _ _ _ rfl)
  rw[hb.val]at this
  exact this
theorem Nt.apart{w:World}{v:Value}{n:Int}(h:Nt w v n):Apart w.heap.size v:=by
 intro a l c e
 rcases h with⟨h,_⟩|⟨b,off,cap,zs,h,hN⟩
 ·rw[h]at e;cases e
 ·rw[h]at e
  injection e with e1 e2 e3
  injection e1 with e1
  subst e1
  have:=hN.lt
  simp;omega
theorem Eg{w:World}{n:Nat}{g:Nat}{za:List Int}(hl:za.length≤n)(h:w.heap[g]?=some (.cells (splice ((List.replicate n (0:Int)).map (Value.int .u64)) 0 (za.map (Value.int .u64))).toArray 24 (0,0))):
 bH w g (za++List.replicate (n-za.length) 0):=by
 unfold bH
 rw[h]
 congr 3
 simp[splice]
theorem Gg{w:World}{b off:Nat}{zs:List Int}(h:Row w b off zs): ∀j v,(zs.map (Value.int .u64))[j]?=some v→w.cell? ((⟨b,off,none⟩:Addr).add j)=some v:=by
 intro j v hj
 rw[List.getElem?_map]at hj
 by_cases hlt:j<zs.length
 ·rw[List.getElem?_eq_getElem hlt]at hj
  simp at hj
  rw[←hj,←gK hlt]
  have:=h j hlt
  unfold Addr.add
  split
  ·rename_i e;subst e;simpa using this
  ·exact this
 ·rw[List.getElem?_eq_none (by omega)]at hj;simp at hj
theorem YA{w w2 w3:World}{g:Nat}{za:List Int}{x y:Int}{M:List Int}(hg:w.heap.size=g)(hM:M=za++List.replicate (za.length+1-za.length) 0)(hwd:Wd za)(hv:nv za=x)(hy0:0≤y)(hy:y<pw^za.length)
 (hb:Below g w w2) {e:Ending} (h:Dh w2 g 0 (za.length+1) M y e w3):
 ∃L:List Int,L.length=za.length+1∧Wd L∧nv L=x+y∧bH w3 g L∧Below g w w3:=by
 obtain⟨c,M',c0,c1,_,ho,hl,hw,hnv,_,hB⟩:=h
 have hlen:M.length=za.length+1:=by rw[hM];simp
 have hx:nv M=x:=by rw[hM,mi,iU,hv];simp
 refine⟨M',by omega,hw,?_,hB,hb.trans (ho.below (by have:=hb.size;omega) (Nat.le_refl _))⟩
 rw[hx]at hnv
 have h1:=dw hw
 have h2:=jb hwd
 rw[hv]at h2
 have h3:pw^(za.length+1)=pw^za.length*pw:=Int.pow_succ _ _
 have h4:=ji za.length
 have h5:pw^za.length*2≤pw^za.length*pw:=Int.mul_le_mul_of_nonneg_left (by decide) (Int.le_of_lt h4)
 rw[Nat.zero_add]at hnv
 have hc:c=0:=by
  apply Classical.byContradiction
  intro hne
  have:c=1:=by omega
  subst this
  simp at hnv
  omega
 rw[hc]at hnv
 simp at hnv
 exact hnv
theorem aqe(w:World)(b off cap:Nat)(za:List Int)(bo:Option Addr)(lb cb:Nat)(x y:Int)(ha:Ns w b off cap za x)(hb:Nt w (.slice bo lb cb) y)(hx:x<big)(hl:lb≤za.length)(hy:y<pw^za.length):
 Calls prog 190 #[.slice (some ⟨b,off,none⟩) za.length cap,.slice bo lb cb] w (bf w (x+y)):=by
 have hla:=ha.len hx
 have hcap:=ha.cap
 have HA:=h_ ha
 have HB:=h_ hb
 have HY:=h_ hy
 have hlt:=ha.lt
 clear ha hb hx hy
 obtain⟨l,hl'⟩: ∃l,za.length=l:=⟨_,rfl⟩
 have HL:=h_ hl'
 rw[hl']at hla hcap hl⊢
 clear hl'
 obtain⟨i0,hi,hz0,hz1,hz2⟩:=info_parts wO
 have hsz:(prog.info? 24).map (·.size)=some 1:=by rw[hi];simp[hz1]
 have hii:=h_ hi
 go_enter func190,ntmps190
 go_wp2_with (first|(at_make;refine wpList_make_full w rfl (.tmp 15) (.tmp 15) 43 rfl w.heap.size 24 i0 (.int .u64 0) 1 underlying43 hii.out hz0 hz1 .i64 .i64 _ _ (l+1) rfl rfl (by omega) (by omega) (by rw[hz2];omega) (by unfold maxLen;omega) (Nat.le_refl _) ?_;intro w1 hown hgrow;have hblk:=h_ (jV hown);have hbel:=h_ (gV hgrow);clear hown hgrow hz0 hz1 hz2)|(refine wpList_copy_splice (o:=⟨some 19,_,_,_,_,_⟩) rfl (.tmp 17) (.tmp 18) 43 43 rfl 24 underlying43 hsz _ _ _ _ _ _ rfl rfl w.heap.size 0 _ 24 hblk.out (za.map (Value.int .u64)) (by rw[List.length_map,HL.out];exact(Nat.min_eq_left (Nat.le_succ l)).symm) (fun _=>⟨rfl,_,rfl,Gg ((HA.out.below hbel.out).row)⟩) (by rw[List.length_map,List.length_map,List.length_replicate,HL.out];omega) (ints_oneCell _ _) w.heap.size w hbel.out (Nat.le_refl _) ?_;intro w2 hw2 wQ))
 have Ff:=Eg (by rw[HL.out];omega) hw2.out
 rw[HL.out]at Ff
 have Si:=h_ wQ
 have hg:w.heap.size≤w2.heap.size:=wQ.size
 clear hw2 wQ
 refine(OA w2 w.heap.size 0 (l+1) (l+1) _ Ff ?_ (by simp[HL.out]) (by simp[HL.out];omega) _ y (HB.out.below Si.out) HB.out.apart ?_).mono ?_
 ·exact oL.2 ⟨HA.out.wd,fA _⟩
 ·have h1:=HY.out
  have h2:pw^za.length≤pw^(l+1):=bT (by rw[HL.out];omega)
  omega
 intro e w3 hpost
 have hend:=YA rfl (by rw[HL.out]) HA.out.wd HA.out.val HB.out.kM HY.out Si.out (by rw[HL.out];exact hpost)
 obtain⟨c,_,_,_,rfl,_⟩:=hpost
 clear Ff hg
 obtain⟨L,e1,e2,e3,e4,e5⟩:=hend
 have HE:=h_ (And.intro e1 (And.intro e2 (And.intro e3 (And.intro e4 e5))))
 clear e1 e2 e3 e4 e5
 have hcut:=oC w.heap.size 0 (l+1) L w3 (by rw[HE.out.1,HL.out];omega) (by rw[HE.out.1,HL.out];exact Nat.le_refl _) HE.out.2.2.2.1.row
 rw[HE.out.1,HL.out]at hcut
 have HC:=h_ hcut
 clear hcut
 go_wp2_with fail
 refine HC.out.mono ?_
 rintro e w' ⟨rfl,m',hm1,hm2,hm3,rfl⟩
 go_wp2_with fail
 go_ret
 refine⟨_,rfl,?_,HE.out.2.2.2.2⟩
 rw[←HE.out.2.2.1]
 exact qG HE.out.2.2.2.1.row HE.out.2.2.2.1.lt HE.out.2.2.2.1.ty HE.out.2.1 (by rw[HE.out.1,HL.out];exact Nat.le_refl _) m' hm1 hm2 hm3
theorem add_lt(w:World)(b off cap:Nat)(za:List Int)(bo:Option Addr)(lb cb:Nat)(x y:Int)(ha:Ns w b off cap za x)(hb:Nt w (.slice bo lb cb) y)(hx:x<big)(hl:lb<za.length)(hy:y<pw^za.length):
 Calls prog 190 #[.slice bo lb cb,.slice (some ⟨b,off,none⟩) za.length cap] w (bf w (x+y)):=by
 have hla:=ha.len hx
 have hcap:=ha.cap
 have HA:=h_ ha
 have HB:=h_ hb
 have HY:=h_ hy
 have hlt:=ha.lt
 clear ha hb hx hy
 obtain⟨l,hl'⟩: ∃l,za.length=l:=⟨_,rfl⟩
 have HL:=h_ hl'
 rw[hl']at hla hcap hl⊢
 clear hl'
 obtain⟨i0,hi,hz0,hz1,hz2⟩:=info_parts wO
 have hsz:(prog.info? 24).map (·.size)=some 1:=by rw[hi];simp[hz1]
 have hii:=h_ hi
 go_enter func190,ntmps190
 go_wp2_with (first|(at_make;refine wpList_make_full w rfl (.tmp 15) (.tmp 15) 43 rfl w.heap.size 24 i0 (.int .u64 0) 1 underlying43 hii.out hz0 hz1 .i64 .i64 _ _ (l+1) rfl rfl (by omega) (by omega) (by rw[hz2];omega) (by unfold maxLen;omega) (Nat.le_refl _) ?_;intro w1 hown hgrow;have hblk:=h_ (jV hown);have hbel:=h_ (gV hgrow);clear hown hgrow hz0 hz1 hz2)|(refine wpList_copy_splice (o:=⟨some 19,_,_,_,_,_⟩) rfl (.tmp 17) (.tmp 18) 43 43 rfl 24 underlying43 hsz _ _ _ _ _ _ rfl rfl w.heap.size 0 _ 24 hblk.out (za.map (Value.int .u64)) (by rw[List.length_map,HL.out];exact(Nat.min_eq_left (Nat.le_succ l)).symm) (fun _=>⟨rfl,_,rfl,Gg ((HA.out.below hbel.out).row)⟩) (by rw[List.length_map,List.length_map,List.length_replicate,HL.out];omega) (ints_oneCell _ _) w.heap.size w hbel.out (Nat.le_refl _) ?_;intro w2 hw2 wQ))
 have Ff:=Eg (by rw[HL.out];omega) hw2.out
 rw[HL.out]at Ff
 have Si:=h_ wQ
 have hg:w.heap.size≤w2.heap.size:=wQ.size
 clear hw2 wQ
 refine(OA w2 w.heap.size 0 (l+1) (l+1) _ Ff ?_ (by simp[HL.out]) (by simp[HL.out];omega) _ y (HB.out.below Si.out) HB.out.apart ?_).mono ?_
 ·exact oL.2 ⟨HA.out.wd,fA _⟩
 ·have h1:=HY.out
  have h2:pw^za.length≤pw^(l+1):=bT (by rw[HL.out];omega)
  omega
 intro e w3 hpost
 have hend:=YA rfl (by rw[HL.out]) HA.out.wd HA.out.val HB.out.kM HY.out Si.out (by rw[HL.out];exact hpost)
 obtain⟨c,_,_,_,rfl,_⟩:=hpost
 clear Ff hg
 obtain⟨L,e1,e2,e3,e4,e5⟩:=hend
 have HE:=h_ (And.intro e1 (And.intro e2 (And.intro e3 (And.intro e4 e5))))
 clear e1 e2 e3 e4 e5
 have hcut:=oC w.heap.size 0 (l+1) L w3 (by rw[HE.out.1,HL.out];omega) (by rw[HE.out.1,HL.out];exact Nat.le_refl _) HE.out.2.2.2.1.row
 rw[HE.out.1,HL.out]at hcut
 have HC:=h_ hcut
 clear hcut
 go_wp2_with fail
 refine HC.out.mono ?_
 rintro e w' ⟨rfl,m',hm1,hm2,hm3,rfl⟩
 go_wp2_with fail
 go_ret
 refine⟨_,rfl,?_,HE.out.2.2.2.2⟩
 rw[←HE.out.2.2.1]
 exact qG HE.out.2.2.2.1.row HE.out.2.2.2.1.lt HE.out.2.2.2.1.ty HE.out.2.1 (by rw[HE.out.1,HL.out];exact Nat.le_refl _) m' hm1 hm2 hm3
theorem Nt.len{w:World}{bo:Option Addr}{lb cb:Nat}{y:Int}(h:Nt w (.slice bo lb cb) y):y<pw^lb:=by
 rcases h with⟨h,rfl⟩|⟨b,off,cap,zs,h,hN⟩
 ·injection h with h1 h2 h3
  subst h2
  simp
 ·injection h with h1 h2 h3
  subst h2
  rw[←hN.val];exact jb hN.wd
theorem Nt.shape{w:World}{v:Value}{n:Int}(h:Nt w v n): ∃bo lb cb,v=.slice bo lb cb:=by
 rcases h with⟨h,_⟩|⟨b,off,cap,zs,h,_⟩
 ·exact⟨_,_,_,h⟩
 ·exact⟨_,_,_,h⟩
theorem KY(w:World)(va vb:Value)(x y:Int)(ha:Nt w va x)(hb:Nt w vb y)(hx:x<big)(hy:y<big)(h0:0<x)(h1:0<y):
 Calls prog 190 #[va,vb] w (bf w (x+y)):=by
 obtain⟨b,off,cap,za,rfl,hA⟩:=ha.pos (by omega)
 obtain⟨b2,aX,cap2,zb,rfl,hB⟩:=hb.pos (by omega)
 by_cases hl:zb.length≤za.length
 ·have h2:=hb.len
  have h3:pw^zb.length≤pw^za.length:=bT hl
  exact aqe w b off cap za _ _ _ x y hA hb hx hl (by omega)
 ·have h2:=ha.len
  have h3:pw^za.length≤pw^zb.length:=bT (by omega)
  have:=add_lt w b2 aX cap2 zb _ _ _ y x hB ha hy (by omega) (by omega)
  rwa [Int.add_comm y x]at this
end Go.Proofs.YtnapiakfbihnjaaGreatDoor
namespace Go.Proofs.YtnapiakfbihnjaaGreatDoor
open Go.RowKit Go.Shelf Tryz
theorem awd{w W:World}(hb:Below W.heap.size W w):(∀b o,b<W.heap.size→w.cell? ⟨b,o,none⟩=W.cell? ⟨b,o,none⟩)∧(∀b o,b<W.heap.size→w.frozen? ⟨b,o,none⟩=W.frozen? ⟨b,o,none⟩):=
 ⟨fun b o h=>hb.cell (p:=⟨b,o,none⟩) h,fun b o h=>hb.frozen (p:=⟨b,o,none⟩) h⟩
theorem fQ(w:World)(a:Option Addr)(n c:Nat):(binOp .eql 43 (.slice a n c) (.slice none 0 0)).run prog w=.ok (.bool a.isNone) w:=Lib.run_eql_slice_nil (P:=prog) w 43 24 a n c 0 0 underlying43
theorem dP(w:World)(a:Option Addr)(n c:Nat):(binOp .neq 43 (.slice a n c) (.slice none 0 0)).run prog w=.ok (.bool (!a.isNone)) w:=run_neq_slice_nil_any (P:=prog) w 43 24 a n c 0 0 underlying43
attribute [local go_sem] fQ dP
theorem au(z:Nat):(0:Int)<2^z:=Int.pow_pos (by omega)
theorem EH(z:Nat):(2:Int)^z≠0:=by have:=au z;omega
def aof(w:World)(n:Int)(e:Ending)(w':World):Prop:=
 ∃(v:Value) (t:Int) (z:Nat),e=.returned (.tuple #[v,.int .i64 z])∧Nt w' v t∧t%2=1∧n=2^z*t∧Below w.heap.size w w'
theorem pK{z:Nat}{n t:Int}(h:n=2^z*t)(h0:0<n)(hn:n<big):z<64000∧0<t∧t≤n:=by
 have hp:(0:Int)<2^z:=Int.pow_pos (by omega)
 have ht:0<t:=by
  apply Classical.byContradiction
  intro hc
  have:=Int.mul_le_mul_of_nonneg_left (show t≤0 by omega) (Int.le_of_lt hp)
  omega
 have h1:=Int.mul_le_mul_of_nonneg_left (show 1≤t by omega) (Int.le_of_lt hp)
 have h2:=Int.mul_le_mul_of_nonneg_right (show(1:Int)≤2^z from hp) (Int.le_of_lt ht)
 refine⟨?_,ht,by omega⟩
 apply Classical.byContradiction
 intro hz
 have h3:(2:Int)^64000*1≤2^64000*2^(z-64000):=Int.mul_le_mul_of_nonneg_left (show(1:Int)≤2^(z-64000)from Int.pow_pos (by omega)) (Int.le_of_lt (Int.pow_pos (by omega)))
 rw[←Int.pow_add,show 64000+(z-64000)=z by omega]at h3
 have h4:big=2^64000:=by unfold big;rw[lI]
 omega
theorem rV(w:World)(hE:Env w)(v:Value)(n:Int)(h:Nt w v n)(hs:n<big)(hn:n≠0):
 Calls prog 132 #[v] w (aof w n):=by
 have h0:0<n:=by have:=h.kM;omega
 have HE:=h_ hE
 have H:=h_ h
 have HS:=h_ hs
 have HN:=h_ h0
 have HNE:=h_ hn
 clear h hs hn hE h0
 go_enter func132,ntmps132
 go_wp2_with fail
 refine(aeA w HE.out v n H.out HS.out HNE.out).mono ?_
 rintro e w' ⟨rfl,z,m,rfl,hz⟩
 have hb:=pK hz HN.out HS.out
 have HZ:=h_ hz
 have hz0:=hb.1
 clear hz hb
 go_wp2_with fail
 refine(AY w v n H.out HS.out z (by omega) (by omega)).mono ?_
 rintro e w' ⟨v',rfl,hv,hbel⟩
 have HV:=h_ hv
 have HB:=h_ hbel
 clear hv hbel
 go_wp2_with fail
 go_ret2
 refine⟨v',2*m+1,z,rfl,?_,by omega,HZ.out,HB.out⟩
 have:=HV.out
 rw[Int.toNat_natCast,HZ.out,Int.mul_ediv_cancel_left _ (EH z)]at this
 exact this
def NoW(w:World)(g:Nat):Prop:= ∀o x,w.cell? ⟨g,o,none⟩≠some (.int .u64 x)
theorem Nt.only{w w':World}{g:Nat}{v:Value}{t:Int}(h:Nt w v t)(ho:Only g w w')(hno:NoW w g):Nt w' v t:=by
 rcases h with h|⟨b,off,cap,zs,e,h⟩
 ·exact .inl h
 ·have hne:b≠g:=by
   intro hb
   subst hb
   exact hno _ _ (h.row 0 h.pos)
  exact .inr ⟨b,off,cap,zs,e,{h with lt:=Nat.lt_of_lt_of_le h.lt ho.size,row:=fun i hi=>ho.cell (h.row i hi) hne,ty:=by obtain⟨c,f,h1⟩:=h.ty;exact⟨c,f,(ho.block b h.lt (by simp;exact hne)).trans h1⟩}⟩
def ahU(w:World)(neg:Bool)(n iP:Int)(e:Ending)(w':World):Prop:=
 ∃(v:Value) (t:Int) (z:Nat),e=.returned (.agg #[.bool neg,v,.slice none 0 0,.int .i64 (iP+z)])∧Nt w' v t∧t%2=1∧n=2^z*t∧Below w.heap.size w w'
theorem adR(w:World)(neg:Bool)(iP:Int)(bo:Option Addr)(lb cb:Nat):
 Calls prog 133 #[.bool neg,.slice none 0 0,.slice bo lb cb,.int .i64 iP] w fun e w'=>e=.returned (.agg #[.bool false,.slice none 0 0,.slice none 0 0,.int .i64 0])∧Below w.heap.size w w':=by
 go_enter func133,ntmps133
 go_wp2_with fail
 refine bodyPost_ret (v:=.agg #[.bool false,.slice none 0 0,.slice none 0 0,.int .i64 0]) (by simp[results,results133,go_sem]) rfl ⟨rfl,?_⟩
 exact(Below.refl _ _).alloc (Nat.le_refl _) _
theorem TV(w:World)(hE:Env w)(neg:Bool)(v:Value)(n iP:Int)(h:Nt w v n)(hs:n<big)(hn:n≠0)(ht: -1000000000<iP)(ht':iP<1000000000):
 Calls prog 133 #[.bool neg,v,.slice none 0 0,.int .i64 iP] w (ahU w neg n iP):=by
 obtain⟨b,off,cap,zs,rfl,hN⟩:=h.pos hn
 have hp:=hN.pos
 have hn0:=h_ hN.npos
 have HE:=h_ hE
 have H:=h_ h
 have HS:=h_ hs
 have HNE:=h_ hn
 clear h hs hn hE hN
 obtain⟨l,hl⟩: ∃l,zs.length=l:=⟨_,rfl⟩
 have HL:=h_ hl
 rw[hl]at H hp⊢
 clear hl
 have hb:((l:Int)==0)=false:=by simp;omega
 go_enter func133,ntmps133
 go_wp2_with fail
 refine(rV _ (HE.out.below ((Below.refl _ _).alloc (Nat.le_refl _) _)) _ n (H.out.below ((Below.refl _ _).alloc (Nat.le_refl _) _)) HS.out HNE.out).mono ?_
 rintro e w1 ⟨v,t,z,rfl,hv,ht2,hz,hbel⟩
 have hz1:=(pK hz hn0.out HS.out).1
 obtain⟨bo,lb,cb,rfl⟩:=hv.shape
 have HV:=h_ hv
 have HT:=h_ ht2
 have HZ:=h_ hz
 have HB:=h_ hbel
 clear hv ht2 hz
 obtain⟨hc,hf⟩:=awd hbel
 have hz:w.heap.size<w1.heap.size:=by have:=hbel.size;simp at this;omega
 clear hbel
 go_wp2_with (go_at_call 114;refine(PV _).mono ?_;rintro e w' ⟨rfl,rfl⟩)
 refine bodyPost_ret (v:=.agg #[.bool neg,.slice bo lb cb,.slice none 0 0,.int .i64 (iP+z)]) (by simp[results,results133,go_sem,hc,hz]) rfl ⟨_,t,z,rfl,?_,HT.out,HZ.out,?_⟩
 ·exact HV.out.only ((((((Only.refl _ _).set _ _).set _ _).set _ _).set _ _)) (by
   intro o x
   rw[hc _ _ (by simp)]
   rcases o with _|_|_|_|o<;>simp[go_sem])
 ·have h1:Below w.heap.size w w1:=((Below.refl _ _).alloc (Nat.le_refl _) _).trans (HB.out.mono (by simp))
  exact h1.trans (Only.below ((((((Only.refl w.heap.size w1).set _ _).set _ _).set _ _).set _ _)) h1.size (Nat.le_refl _))
def Bt(w:World)(v:Value)(b:Int):Prop:=(b=1∧v=.slice none 0 0)∨(b≠1∧Nt w v b)
theorem Bt.below{w w':World}{v:Value}{n:Int}(h:Bt w v n)(hw:Below w.heap.size w w'):Bt w' v n:=h.imp id (fun h=>⟨h.1,h.2.below hw⟩)
theorem Bt.only{w w':World}{g:Nat}{v:Value}{t:Int}(h:Bt w v t)(ho:Only g w w')(hno:NoW w g):Bt w' v t:=h.imp id (fun h=>⟨h.1,h.2.only ho hno⟩)
theorem Bt.shape{w:World}{v:Value}{n:Int}(h:Bt w v n): ∃bo lb cb,v=.slice bo lb cb:=by
 rcases h with⟨_,h⟩|⟨_,h⟩
 ·exact⟨_,_,_,h⟩
 ·exact h.shape
def aeB(w:World)(neg:Bool)(n d iP:Int)(e:Ending)(w':World):Prop:=
 ∃(v vb:Value) (t b:Int) (z y:Nat),e=.returned (.agg #[.bool neg,v,vb,.int .i64 (iP+z-y)])∧Nt w' v t∧t%2=1∧n=2^z*t∧Bt w' vb b∧b%2=1∧d=2^y*b∧Below w.heap.size w w'
theorem aeD(w:World)(hE:Env w)(neg:Bool)(v vd:Value)(n d iP:Int)(h:Nt w v n)(hs:n<big)(hn:n≠0)(h2:Nt w vd d)(hs2:d<big)(hn2:d≠0)(ht: -1000000000<iP)(ht':iP<1000000000):
 Calls prog 133 #[.bool neg,v,vd,.int .i64 iP] w (aeB w neg n d iP):=by
 obtain⟨b,off,cap,zs,rfl,hN⟩:=h.pos hn
 obtain⟨b2,aX,cap2,zs2,rfl,hN2⟩:=h2.pos hn2
 have hp:=hN.pos
 have hn0:=h_ hN.npos
 have asw:=h_ hN2.npos
 have HE:=h_ hE
 have H:=h_ h
 have H2:=h_ h2
 have HS:=h_ hs
 have HS2:=h_ hs2
 have HNE:=h_ hn
 have ayT:=h_ hn2
 clear h hs hn hE hN h2 hs2 hn2 hN2
 obtain⟨l,hl⟩: ∃l,zs.length=l:=⟨_,rfl⟩
 obtain⟨l2,hl2⟩: ∃l,zs2.length=l:=⟨_,rfl⟩
 rw[hl]at H hp⊢
 rw[hl2]at H2⊢
 clear hl hl2
 have hb:((l:Int)==0)=false:=by simp;omega
 go_enter func133,ntmps133
 go_wp2_with fail
 refine(rV _ (HE.out.below ((Below.refl _ _).alloc (Nat.le_refl _) _)) _ n (H.out.below ((Below.refl _ _).alloc (Nat.le_refl _) _)) HS.out HNE.out).mono ?_
 rintro e w1 ⟨v,t,z,rfl,hv,ht2,hz,hbel⟩
 have hz1:=(pK hz hn0.out HS.out).1
 obtain⟨bo,lb,cb,rfl⟩:=hv.shape
 have HV:=h_ hv
 have HT:=h_ ht2
 have HZ:=h_ hz
 have HB:=h_ hbel
 clear hv ht2 hz hbel
 have hsz1:w.heap.size<w1.heap.size:=by have:=HB.out.size;simp at this;omega
 have HB1:Hid (Below w.heap.size w w1):=h_ (((Below.refl _ _).alloc (Nat.le_refl _) _).trans (HB.out.mono (by simp)))
 go_wp2_with fail
 refine(rV _ (HE.out.below HB1.out) _ d (H2.out.below HB1.out) HS2.out ayT.out).mono ?_
 rintro e w2 ⟨v2,t2,y,rfl,hv2,asA,hy,wQ⟩
 have hy1:=(pK hy asw.out HS2.out).1
 have hy2:=(pK hy asw.out HS2.out).2.2
 obtain⟨aU,aS,cb2,rfl⟩:=hv2.shape
 have sQ:=h_ hv2
 have HT2:=h_ asA
 have HY:=h_ hy
 have HB2:=h_ wQ
 have HSy:Hid (t2<big):=h_ (by have:=HS2.out;omega)
 have HVV:Hid (Nt w2 (.slice bo lb cb) t):=h_ (HV.out.below HB2.out)
 have hc: ∀o,w2.cell? ⟨w.heap.size,o,none⟩=(w.alloc (.cells #[.bool false,.slice none 0 0,.slice none 0 0,.int .i64 0] 45)).cell? ⟨w.heap.size,o,none⟩:=fun o=>by
  rw[HB2.out.cell (p:=⟨w.heap.size,o,none⟩) hsz1,HB.out.cell (p:=⟨w.heap.size,o,none⟩) (by simp)]
 have hf: ∀o,w2.frozen? ⟨w.heap.size,o,none⟩=(w.alloc (.cells #[.bool false,.slice none 0 0,.slice none 0 0,.int .i64 0] 45)).frozen? ⟨w.heap.size,o,none⟩:=fun o=>by
  rw[HB2.out.frozen (p:=⟨w.heap.size,o,none⟩) hsz1,HB.out.frozen (p:=⟨w.heap.size,o,none⟩) (by simp)]
 have hsz2:w.heap.size<w2.heap.size:=by have:=HB2.out.size;omega
 have hne:aU≠none:=by
  rcases hv2 with⟨_,h⟩|⟨_,_,_,_,h,_⟩
  ·have:=HT2.out;omega
  ·injection h with h _ _;rw[h];simp
 have HE2:Hid (Below w.heap.size w w2):=h_ (HB1.out.trans (HB2.out.mono (by have:=HB1.out.size;omega)))
 clear hv2 asA hy wQ hy2
 have HNo:Hid (NoW w2 w.heap.size):=h_ (by
  intro o x
  rw[hc]
  rcases o with _|_|_|_|o<;>simp[go_sem])
 have HF:Hid (∀w':World,Only w.heap.size w2 w'→Nt w' (.slice bo lb cb) t∧Nt w' (.slice aU aS cb2) t2∧Below w.heap.size w w'):=h_ (fun w' ho=>⟨HVV.out.only ho HNo.out,sQ.out.only ho HNo.out,HE2.out.trans (ho.below HE2.out.size (Nat.le_refl _))⟩)
 obtain⟨a2,rfl⟩:=Option.ne_none_iff_exists'.1 hne
 clear hne
 by_cases h1:t2=1
 ·have hd:decide (t2=1)=true:=by simpa using h1
  go_wp2_with (go_at_call 114;refine(GK _ _ t2 sQ.out HSy.out).mono ?_;rintro e w' ⟨rfl,rfl⟩)
  refine bodyPost_ret (v:=.agg #[.bool neg,.slice bo lb cb,.slice none 0 0,.int .i64 (iP+z-y)]) (by simp[results,results133,go_sem,hc,hsz2]) rfl ?_
  have hw:=HF.out _ ((((((Only.refl w.heap.size w2).set 0 (Value.bool neg)).set 1 (Value.slice bo lb cb)).set 2 (Value.slice none 0 0)).set 3 (Value.int .i64 (iP+z-y))))
  exact⟨_,_,t,t2,z,y,rfl,hw.1,HT.out,HZ.out,.inl ⟨h1,rfl⟩,HT2.out,HY.out,hw.2.2⟩
 ·have hd:decide (t2=1)=false:=by simpa using h1
  go_wp2_with (go_at_call 114;refine(GK _ _ t2 sQ.out HSy.out).mono ?_;rintro e w' ⟨rfl,rfl⟩)
  refine bodyPost_ret (v:=.agg #[.bool neg,.slice bo lb cb,.slice (some a2) aS cb2,.int .i64 (iP+z-y)]) (by simp[results,results133,go_sem,hc,hsz2]) rfl ?_
  have hw:=HF.out _ ((((((Only.refl w.heap.size w2).set 0 (Value.bool neg)).set 1 (Value.slice bo lb cb)).set 2 (Value.slice (some a2) aS cb2)).set 3 (Value.int .i64 (iP+z-y))))
  exact⟨_,_,t,t2,z,y,rfl,hw.1,HT.out,HZ.out,.inr ⟨h1,hw.2.1⟩,HT2.out,HY.out,hw.2.2⟩
end Go.Proofs.YtnapiakfbihnjaaGreatDoor
namespace Go.Proofs.YtnapiakfbihnjaaGreatDoor
open Go.RowKit Go.Shelf Tryz
attribute [local go_sem] fQ dP
structure Nm(w:World)(v:Value)(s:Bool)(t b e:Int):Prop where
 ex: ∃bo lb cb aU aS cb2,v=.agg #[.bool s,.slice bo lb cb,.slice aU aS cb2,.int .i64 e]∧Nt w (.slice bo lb cb) t∧Bt w (.slice aU aS cb2) b
theorem Nm.below{w w':World}{v:Value}{s:Bool}{t b e:Int}(h:Nm w v s t b e)(hw:Below w.heap.size w w'):Nm w' v s t b e:=by
 obtain⟨bo,lb,cb,aU,aS,cb2,h1,h2,h3⟩:=h.ex
 exact⟨bo,lb,cb,aU,aS,cb2,h1,h2.below hw,h3.below hw⟩
theorem Nt.isNone{w:World}{bo:Option Addr}{lb cb:Nat}{t:Int}(h:Nt w (.slice bo lb cb) t):bo.isNone=decide (t=0):=by
 rcases h with⟨h,rfl⟩|⟨b,off,cap,zs,h,hN⟩
 ·injection h with h1;subst h1;rfl
 ·injection h with h1;subst h1
  have:=hN.npos
  have: ¬t=0:=by omega
  simp[this]
theorem Bt.isNone{w:World}{bo:Option Addr}{lb cb:Nat}{t:Int}(h:Bt w (.slice bo lb cb) t)(h0:t≠0):bo.isNone=decide (t=1):=by
 rcases h with⟨rfl,h⟩|⟨h1,h⟩
 ·injection h with h1;subst h1;rfl
 ·rw[h.isNone];simp[h0,h1]
def JH(s:Bool)(t:Int):Int:=if t=0 then 0 else if s then-1 else 1
def ahV(w:World)(x:Int)(e:Ending)(w':World):Prop:=e=.returned (.int .i64 x)∧Below w.heap.size w w'
theorem Uu(w:World)(v:Value)(s:Bool)(t b e:Int)(h:Nm w v s t b e):
 Calls prog 24 #[v] w (ahV w (JH s t)):=by
 obtain⟨bo,lb,cb,aU,aS,cb2,rfl,h1,h2⟩:=h.ex
 have hn:=h1.isNone
 have hs:Hid (JH s t=if decide (t=0)then 0 else if s then-1 else 1):=h_ (by simp[JH])
 generalize decide (t=0)=z at hn hs
 clear h h1 h2
 cases z
 ·cases s
  all_goals
   go_enter func24,ntmps24
   go_wp2
   go_ret
   exact⟨by rw[hs.out];rfl,(Below.refl _ _).alloc (Nat.le_refl _) _⟩
 ·go_enter func24,ntmps24
  go_wp2
  go_ret
  exact⟨by rw[hs.out];rfl,(Below.refl _ _).alloc (Nat.le_refl _) _⟩
def sS(w:World)(s:Bool)(t b e:Int)(en:Ending)(w':World):Prop:= ∃v,en=.returned v∧Nm w' v s t b e∧Below w.heap.size w w'
theorem Y6(w:World)(v:Value)(s:Bool)(t b e:Int)(h:Nm w v s t b e):
 Calls prog 195 #[v] w (sS w false t b e):=by
 obtain⟨bo,lb,cb,aU,aS,cb2,rfl,h1,h2⟩:=h.ex
 have H1:=h_ h1
 have H2:=h_ h2
 clear h h1 h2
 go_enter func195,ntmps195
 go_wp2
 refine bodyPost_ret (v:=.agg #[.bool false,.slice bo lb cb,.slice aU aS cb2,.int .i64 e]) (by simp[results,results195,go_sem]) rfl ?_
 have hb:=((Below.refl w.heap.size w).alloc (Nat.le_refl _) (.cells #[.bool false,.slice bo lb cb,.slice aU aS cb2,.int .i64 e] 45)).alloc (by simp) (.cells #[.bool false,.slice bo lb cb,.slice aU aS cb2,.int .i64 e] 45)
 exact⟨_,rfl,⟨_,_,_,_,_,_,rfl,H1.out.below hb,H2.out.below hb⟩,hb⟩
theorem NR(w:World)(v:Value)(s:Bool)(t b e:Int)(h:Nm w v s t b e):
 Calls prog 149 #[v] w (sS w (!s&& !decide (t=0)) t b e):=by
 obtain⟨bo,lb,cb,aU,aS,cb2,rfl,h1,h2⟩:=h.ex
 have hn:=h1.isNone
 generalize decide (t=0)=z at hn⊢
 have H1:=h_ h1
 have H2:=h_ h2
 clear h h1 h2
 have hb: ∀q:Bool,Below w.heap.size w ((w.alloc (.cells #[.bool q,.slice bo lb cb,.slice aU aS cb2,.int .i64 e] 45)).alloc (.cells #[.bool q,.slice bo lb cb,.slice aU aS cb2,.int .i64 e] 45)):=fun q=>
  ((Below.refl w.heap.size w).alloc (Nat.le_refl _) (.cells #[.bool q,.slice bo lb cb,.slice aU aS cb2,.int .i64 e] 45)).alloc (by simp) (.cells #[.bool q,.slice bo lb cb,.slice aU aS cb2,.int .i64 e] 45)
 have HB:=h_ hb
 clear hb
 cases s<;>cases z
 all_goals
  go_enter func149,ntmps149
  go_wp2
 ·refine bodyPost_ret (v:=.agg #[.bool true,.slice bo lb cb,.slice aU aS cb2,.int .i64 e]) (by simp[results,results149,go_sem]) rfl ?_
  exact⟨_,rfl,⟨_,_,_,_,_,_,rfl,H1.out.below (HB.out _),H2.out.below (HB.out _)⟩,HB.out _⟩
 all_goals
  refine bodyPost_ret (v:=.agg #[.bool false,.slice bo lb cb,.slice aU aS cb2,.int .i64 e]) (by simp[results,results149,go_sem]) rfl ?_
  exact⟨_,rfl,⟨_,_,_,_,_,_,rfl,H1.out.below (HB.out _),H2.out.below (HB.out _)⟩,HB.out _⟩
def wo(w:World)(x:Bool)(e:Ending)(w':World):Prop:=e=.returned (.bool x)∧Below w.heap.size w w'
theorem uu(w:World)(v:Value)(s:Bool)(t b e:Int)(h:Nm w v s t b e)(hb:b≠0):
 Calls prog 160 #[v] w (wo w (decide (b=1)&&decide (0≤e))):=by
 obtain⟨bo,lb,cb,aU,aS,cb2,rfl,h1,h2⟩:=h.ex
 have hn:=h2.isNone hb
 generalize decide (b=1)=z at hn⊢
 clear h h1 h2
 cases z
 all_goals
  go_enter func160,ntmps160
  go_wp2
  go_ret
  exact⟨rfl,(Below.refl _ _).alloc (Nat.le_refl _) _⟩
end Go.Proofs.YtnapiakfbihnjaaGreatDoor
namespace Go.Proofs.YtnapiakfbihnjaaGreatDoor
open Go.RowKit Go.Shelf Tryz
attribute [local go_sem] fQ dP
def GG(w:World)(s:Bool)(t b e:Int)(er:Int)(en:Ending)(w':World):Prop:= ∃v,en=.returned (.tuple #[v,.int .i64 er])∧Nm w' v s t b e∧Below w.heap.size w w'
theorem Pi(w:World)(v:Value)(s:Bool)(t b e k:Int)(h:Nm w v s t b e)(hk0: -20000≤k)(hk1:k≤20000)(he0: -1000000≤e)(he1:e≤1000000):
 Calls prog 204 #[v,.int .i64 k] w (GG w s t b (if t=0 then e else e+k) 0):=by
 obtain⟨bo,lb,cb,aU,aS,cb2,rfl,h1,h2⟩:=h.ex
 have hn:=h1.isNone
 have hE0:(if t=0 then e else e+k)=if decide (t=0)then e else e+k:=by simp
 generalize (if t=0 then e else e+k)=r at hE0⊢
 generalize decide (t=0)=z at hn hE0
 have hE:=h_ hE0
 clear hE0
 have H1:=h_ h1
 have H2:=h_ h2
 clear h h1 h2
 have hb: ∀q r:Int,Below w.heap.size w ((w.alloc (.cells #[.bool s,.slice bo lb cb,.slice aU aS cb2,.int .i64 q] 45)).alloc (.cells #[.bool s,.slice bo lb cb,.slice aU aS cb2,.int .i64 r] 45)):=fun q r=>
  ((Below.refl w.heap.size w).alloc (Nat.le_refl _) _).alloc (by simp) _
 have HB:=h_ hb
 clear hb
 cases z
 ·go_enter func204,ntmps204
  go_wp2
  refine bodyPost_ret (v:=.tuple #[.agg #[.bool s,.slice bo lb cb,.slice aU aS cb2,.int .i64 (e+k)],.int .i64 0]) (by simp[results,results204,go_sem]) rfl ?_
  exact⟨_,rfl,⟨_,_,_,_,_,_,by rw[hE.out];rfl,H1.out.below (HB.out _ _),H2.out.below (HB.out _ _)⟩,HB.out _ _⟩
 ·go_enter func204,ntmps204
  go_wp2
  refine bodyPost_ret (v:=.tuple #[.agg #[.bool s,.slice bo lb cb,.slice aU aS cb2,.int .i64 e],.int .i64 0]) (by simp[results,results204,go_sem]) rfl ?_
  exact⟨_,rfl,⟨_,_,_,_,_,_,by rw[hE.out];rfl,H1.out.below (HB.out _ _),H2.out.below (HB.out _ _)⟩,HB.out _ _⟩
def ww(w:World)(x:Int)(e:Ending)(w':World):Prop:=e=.returned (.int .i64 x)∧Below w.heap.size w w'
theorem EK{n:Int}(h:n<big):aQ n≤64000:=by
 by_cases h0:n≤0
 ·unfold aQ;rw[if_pos h0];omega
 ·obtain⟨h1,_,h3⟩:=eF (show 0<n by omega)
  apply Classical.byContradiction
  intro hc
  have h4:(2:Int)^64000*1≤2^64000*2^(aQ n-1-64000):=Int.mul_le_mul_of_nonneg_left (show(1:Int)≤2^(aQ n-1-64000)from au _) (Int.le_of_lt (au _))
  rw[←Int.pow_add,show 64000+(aQ n-1-64000)=aQ n-1 by omega]at h4
  have h5:big=2^64000:=by unfold big;rw[lI]
  omega
theorem YR(w:World)(v:Value)(s:Bool)(t e:Int)(h:Nm w v s t 1 e)(ht:t<big)(h0:0<t)(he0: -1000000≤e)(he1:e≤1000000):
 Calls prog 194 #[v] w (ww w (aQ t-1+e)):=by
 obtain⟨bo,lb,cb,aU,aS,cb2,rfl,h1,h2⟩:=h.ex
 obtain rfl:aU=none:=by have:=h2.isNone (by decide);simpa using this
 have hbl:=EK ht
 obtain⟨_,_,hb1⟩:=eF h0
 generalize hL:aQ t=L at hbl hb1⊢
 have HL:=h_ hL
 have H1:=h_ h1
 have HT:=h_ ht
 clear h h1 h2 hL ht h0
 have HB:Hid (Below w.heap.size w (w.alloc (.cells #[.bool s,.slice bo lb cb,.slice none aS cb2,.int .i64 e] 45))):=h_ ((Below.refl _ _).alloc (Nat.le_refl _) _)
 have hsz: ∀wx,Below w.heap.size w wx→Calls prog 233 #[.slice bo lb cb] wx fun en w'=>en=.returned (.int .i64 L)∧w'=wx:=fun wx hb=>by
  refine(size_any wx _ t (H1.out.below hb) HT.out).mono ?_
  rintro en w' ⟨rfl,rfl⟩
  exact⟨by rw[HL.out],rfl⟩
 have HS:=h_ hsz
 clear hsz
 have x1:IntKind.i64.wrap ((L:Int)-1)=(L:Int)-1:=IntWalk.i64_in _ (by omega)
 have x2:IntKind.i64.wrap ((L:Int)-1+e)=(L:Int)-1+e:=IntWalk.i64_in _ (by omega)
 go_enter func194,ntmps194
 go_wp2_with fail
 go_quiet ((go_at_call 233;exact Calls.quiet_of_same (HS.out _ (HB.out.trans ((aY.step _ _).below _)))))
 go_wp2_with fail
 go_ret
 exact⟨rfl,HB.out.trans ((aY.step _ _).below _)⟩
end Go.Proofs.YtnapiakfbihnjaaGreatDoor
