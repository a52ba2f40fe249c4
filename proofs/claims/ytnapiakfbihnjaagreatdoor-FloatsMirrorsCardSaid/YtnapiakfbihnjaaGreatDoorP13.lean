/-
  Part of a proof. No conditions.
-/
import Derived.Test.YtnapiakfbihnjaaGreatDoorP09
set_option linter.unusedVariables false
set_option linter.unusedSimpArgs false
set_option maxHeartbeats 1000000
namespace Go.Proofs.YtnapiakfbihnjaaGreatDoor.R
def pw:Int:=1000000000
theorem LC:pw=1000000000:=rfl
theorem lX:0<pw:=by decide
def nv:List Int→Int
 |[]=>0
 |z::zs=>z+pw*nv zs
def Wd(zs:List Int):Prop:= ∀z∈zs,0≤z∧z<pw
theorem qR:Wd []:=fun _ h=>by cases h
theorem oI{z:Int}{zs:List Int}:Wd (z::zs)↔(0≤z∧z<pw)∧Wd zs:=by
 unfold Wd;simp
theorem oL{a b:List Int}:Wd (a++b)↔Wd a∧Wd b:=by
 unfold Wd;constructor
 ·intro h;exact⟨fun z hz=>h z (by simp[hz]),fun z hz=>h z (by simp[hz])⟩
 ·intro h z hz;rcases List.mem_append.1 hz with hz|hz
  ·exact h.1 z hz
  ·exact h.2 z hz
theorem mi(a b:List Int):nv (a++b)=nv a+pw^a.length*nv b:=by
 induction a with
 |nil=>simp[nv]
 |cons z zs ih=>simp only[List.cons_append,nv,ih,List.length_cons,Int.pow_succ];grind
theorem dw{zs:List Int}(h:Wd zs):0≤nv zs:=by
 induction zs with
 |nil=>simp[nv]
 |cons z zs ih=>
  have h':=oI.1 h
  have:=ih h'.2
  have:=Int.mul_nonneg (Int.le_of_lt lX) this
  simp only[nv];omega
theorem ji(n:Nat):0<pw^n:=Int.pow_pos lX
theorem bT{a b:Nat}(h:a≤b):pw^a≤pw^b:=by
 obtain⟨c,rfl⟩:=Nat.exists_eq_add_of_le h
 rw[Int.pow_add]
 have h1:1≤pw^c:=ji c
 have:=Int.mul_le_mul_of_nonneg_left h1 (Int.le_of_lt (ji a))
 omega
theorem jb{zs:List Int}(h:Wd zs):nv zs<pw^zs.length:=by
 induction zs with
 |nil=>simp[nv]
 |cons z zs ih=>
  have h':=oI.1 h
  have i1:=ih h'.2
  simp only[nv,List.length_cons,Int.pow_succ]
  have:pw*nv zs≤pw*(pw^zs.length-1):=Int.mul_le_mul_of_nonneg_left (by omega) (Int.le_of_lt lX)
  have:pw*(pw^zs.length-1)=pw^zs.length*pw-pw:=by grind
  omega
def gd(zs:List Int)(n:Nat):Int:=zs.getD n 0
theorem gK{zs:List Int}{n:Nat}(h:n<zs.length):gd zs n=zs[n]:=by simp[gd,h]
theorem iL{zs:List Int}{n:Nat}(h:zs.length≤n):gd zs n=0:=by simp[gd,h]
theorem kP(z:Int)(zs:List Int):gd (z::zs) 0=z:=by simp[gd]
theorem lJ(z:Int)(zs:List Int)(n:Nat):gd (z::zs) (n+1)=gd zs n:=by simp[gd]
theorem oO{zs:List Int}{j:Nat}{x:Int}(h:j<zs.length):gd (zs.set j x) j=x:=by simp[gd,h]
theorem fD{zs:List Int}{i j:Nat}{x:Int}(h:i≠j):gd (zs.set j x) i=gd zs i:=by simp[gd,Ne.symm h]
theorem lV(zs:List Int)(j:Nat)(x:Int)(h:j<zs.length):nv (zs.set j x)=nv zs+pw^j*(x-gd zs j):=by
 induction zs generalizing j with
 |nil=>simp at h
 |cons z zs ih=>
  cases j with
  |zero=>simp[nv,kP];grind
  |succ j=>
   have:=ih j (by simpa using h)
   simp only[List.set_cons_succ,nv,this,lJ,Int.pow_succ];grind
theorem jY{zs:List Int}{j:Nat}{x:Int}(h:Wd zs)(hx:0≤x∧x<pw):Wd (zs.set j x):=by
 intro z hz
 rcases List.mem_or_eq_of_mem_set hz with h1|h1
 ·exact h z h1
 ·exact h1▸hx
theorem nZ{zs:List Int}(h:Wd zs)(j:Nat):0≤gd zs j∧gd zs j<pw:=by
 by_cases hj:j<zs.length
 ·rw[gK hj];exact h _ (List.getElem_mem hj)
 ·rw[iL (by omega)];exact⟨by omega,lX⟩
theorem eP{zs:List Int}(h:Wd zs)(n:Nat):Wd (zs.take n):=fun z hz=>h z (List.mem_of_mem_take hz)
theorem kU{zs:List Int}(h:Wd zs)(n:Nat):Wd (zs.drop n):=fun z hz=>h z (List.mem_of_mem_drop hz)
theorem iU(n:Nat):nv (List.replicate n 0)=0:=by
 induction n with
 |zero=>rfl
 |succ n ih=>simp[List.replicate_succ,nv,ih]
theorem fA(n:Nat):Wd (List.replicate n 0):=by
 intro z hz;have:=(List.mem_replicate.1 hz).2;subst this;exact⟨by omega,lX⟩
theorem jP(zs:List Int)(n:Nat)(h:n<zs.length):nv (zs.take (n+1))=nv (zs.take n)+pw^n*gd zs n:=by
 rw[List.take_succ_eq_append_getElem h,mi]
 simp[nv,List.length_take,Nat.min_eq_left (Nat.le_of_lt h),gK h]
theorem gy(zs:List Int)(n:Nat)(h:n≤zs.length):nv zs=nv (zs.take n)+pw^n*nv (zs.drop n):=by
 conv=>lhs;rw[←List.take_append_drop n zs]
 rw[mi];simp[List.length_take,Nat.min_eq_left h]
def Can(zs:List Int):Prop:=zs≠ []→gd zs (zs.length-1)≠0
theorem tq{zs:List Int}(h:Wd zs)(hc:Can zs)(hne:zs≠ []):pw^(zs.length-1)≤nv zs:=by
 have hl:0<zs.length:=List.length_pos_iff.2 hne
 have:=gy zs (zs.length-1) (by omega)
 have h1:=dw (eP h (zs.length-1))
 have h2:zs.drop (zs.length-1)=[gd zs (zs.length-1)]:=by
  rw[List.drop_eq_getElem_cons (by omega),List.drop_eq_nil_of_le (by omega),gK (by omega)]
 rw[h2]at this
 have h3:=hc hne
 have h4:=nZ h (zs.length-1)
 simp only[nv]at this
 have:pw^(zs.length-1)*1≤pw^(zs.length-1)*gd zs (zs.length-1):=Int.mul_le_mul_of_nonneg_left (by omega) (Int.le_of_lt (ji _))
 grind
theorem GH{zs:List Int}(h:Wd zs)(hc:Can zs)(hne:zs≠ []):0<nv zs:=Int.lt_of_lt_of_le (ji _) (tq h hc hne)
end Go.Proofs.YtnapiakfbihnjaaGreatDoor.R
namespace Go.Proofs.YtnapiakfbihnjaaGreatDoor.R
open Go.RowKit Go.Shelf
def Row(w:World)(b off:Nat)(zs:List Int):Prop:= ∀i,i<zs.length→w.cell? ⟨b,off+i,none⟩=some (.int .i64 (gd zs i))
def Typ(w:World)(b:Nat):Prop:= ∃c f,w.heap[b]?=some (.cells c 2 f)
structure Ns(w:World)(b off cap:Nat)(zs:List Int)(n:Int):Prop where
 cap:zs.length≤cap
 pos:0<zs.length
 lt:b<w.heap.size
 wd:Wd zs
 top:gd zs (zs.length-1)≠0
 val:nv zs=n
 row:Row w b off zs
 ty:Typ w b
theorem Typ.lt{w:World}{b:Nat}(h:Typ w b):b<w.heap.size:=by
 obtain⟨c,f,h⟩:=h
 exact(Array.getElem?_eq_some_iff.1 h).1
theorem Typ.below{w w':World}{b:Nat}(h:Typ w b)(hw:Below w.heap.size w w'):Typ w' b:=by
 have hl:=h.lt
 obtain⟨c,f,h⟩:=h
 exact⟨c,f,(hw.block b hl).trans h⟩
def Nt(w:World)(v:Value)(n:Int):Prop:=
 (n=0∧ ∃p cap,v=.slice p 0 cap∧(p=none→cap=0))∨ ∃(b off cap:Nat) (zs:List Int),v=.slice (some ⟨b,off,none⟩) zs.length cap∧Ns w b off cap zs n
theorem Row.below{w w':World}{b off:Nat}{zs:List Int}(h:Row w b off zs)(hb:b<w.heap.size)(hw:Below w.heap.size w w'):Row w' b off zs:=
 fun i hi=>(hw.cell (p:=⟨b,off+i,none⟩) hb).trans (h i hi)
theorem Ns.below{w w':World}{b off cap:Nat}{zs:List Int}{n:Int}(h:Ns w b off cap zs n)(hw:Below w.heap.size w w'):Ns w' b off cap zs n:=
 {h with lt:=Nat.lt_of_lt_of_le h.lt hw.size,row:=h.row.below h.lt hw,ty:=h.ty.below hw}
theorem Nt.below{w w':World}{v:Value}{n:Int}(h:Nt w v n)(hw:Below w.heap.size w w'):Nt w' v n:=by
 rcases h with h|⟨b,off,cap,zs,e,h⟩
 ·exact .inl h
 ·exact .inr ⟨b,off,cap,zs,e,h.below hw⟩
theorem Ns.nt{w:World}{b off cap:Nat}{zs:List Int}{n:Int}(h:Ns w b off cap zs n):Nt w (.slice (some ⟨b,off,none⟩) zs.length cap) n:=.inr ⟨b,off,cap,zs,rfl,h⟩
theorem Nt.zero(w:World):Nt w (.slice none 0 0) 0:=.inl ⟨rfl,none,0,rfl,fun _=>rfl⟩
theorem Ns.can{w:World}{b off cap:Nat}{zs:List Int}{n:Int}(h:Ns w b off cap zs n):Can zs:=fun _=>h.top
theorem Ns.ne{w:World}{b off cap:Nat}{zs:List Int}{n:Int}(h:Ns w b off cap zs n):zs≠ []:=List.ne_nil_of_length_pos h.pos
theorem Ns.npos{w:World}{b off cap:Nat}{zs:List Int}{n:Int}(h:Ns w b off cap zs n):0<n:=h.val▸GH h.wd h.can h.ne
theorem Nt.kM{w:World}{v:Value}{n:Int}(h:Nt w v n):0≤n:=by
 rcases h with h|⟨b,off,cap,zs,e,h⟩
 ·omega
 ·have:=h.npos;omega
theorem Nt.pos{w:World}{v:Value}{n:Int}(h:Nt w v n)(h0:n≠0): ∃(b off cap:Nat) (zs:List Int),v=.slice (some ⟨b,off,none⟩) zs.length cap∧Ns w b off cap zs n:=by
 rcases h with h|h
 ·exact absurd h.1 h0
 ·exact h
theorem Nt.shape{w:World}{v:Value}{n:Int}(h:Nt w v n): ∃bo lb cb,v=.slice bo lb cb:=by
 rcases h with⟨_,p,cap,rfl,_⟩|⟨b,off,cap,zs,rfl,h⟩<;>exact⟨_,_,_,rfl⟩
def big:Int:=pw^2000
theorem iI{zs:List Int}{n:Int}{k:Nat}(hw:Wd zs)(hc:Can zs)(hv:nv zs=n)(h:n<pw^k):zs.length≤k:=by
 apply Classical.byContradiction
 intro hk
 have hne:zs≠ []:=by intro e;subst e;simp at hk
 have h1:=tq hw hc hne
 have h2:pw^k≤pw^(zs.length-1):=bT (by omega)
 omega
theorem Ns.len{w:World}{b off cap:Nat}{zs:List Int}{n:Int}(h:Ns w b off cap zs n)(hb:n<big):zs.length≤2000:=iI h.wd h.can h.val hb
theorem aI{zs:List Int}(h:Wd zs)(i:Nat):0≤gd zs i∧gd zs i<1000000000:=nZ h i
def bf(w:World)(n:Int)(e:Ending)(w':World):Prop:= ∃v,e=.returned v∧Nt w' v n∧Below w.heap.size w w'
def lenV:Value→Nat
 |.slice _ m _=>m
 |_=>0
def bH(w:World)(g:Nat)(L:List Int):Prop:=w.heap[g]?=some (.cells (L.map (Value.int .i64)).toArray 2 (0,0))
theorem bH.cell{w:World}{g:Nat}{L:List Int}(h:bH w g L)(i:Nat)(hi:i<L.length):w.cell? ⟨g,i,none⟩=some (.int .i64 (gd L i)):=by
 rw[cell_of_row w g i _ 2 (0,0) h]
 simp[gK hi,hi]
theorem bH.frozen{w:World}{g:Nat}{L:List Int}(h:bH w g L)(i:Nat):w.frozen? ⟨g,i,none⟩=false:=frozen_of_row w g i _ 2 h
theorem bH.set{w:World}{g:Nat}{L:List Int}(h:bH w g L)(i:Nat)(x:Int):bH (w.setCell ⟨g,i,none⟩ (.int .i64 x)) g (L.set i x):=by
 unfold bH
 rw[heap_setCell_same w g i _ 2 _ h]
 congr 2
 simp[List.map_set]
theorem bH.lt{w:World}{g:Nat}{L:List Int}(h:bH w g L):g<w.heap.size:=lt_of_block h
theorem bH.below{w w':World}{g B:Nat}{L:List Int}(h:bH w g L)(hg:g<B)(hw:Below B w w'):bH w' g L:=(hw.block g hg).trans h
theorem bH.Dp{w w':World}{g:Nat}{L:List Int}(h:bH w g L)(hd:aY w w'):bH w' g L:=by unfold bH;rw[hd.heap];exact h
theorem bH.typ{w:World}{g:Nat}{L:List Int}(h:bH w g L):Typ w g:=⟨_,_,h⟩
theorem bH.row{w:World}{g:Nat}{L:List Int}(h:bH w g L):Row w g 0 L:=fun i hi=>by rw[Nat.zero_add];exact h.cell i hi
theorem IE:(Tryz.prog.info? 2).map (fun i=>(i.zero,i.size,i.bytes))=some (some (.int .i64 0),1,8):=by kernel_rfl
theorem jV{w w':World}{n:Nat}(h:w'.ownsRow w.heap.size 2 1 (.slice (some ⟨w.heap.size,0,none⟩) n n) n (madeCells (Value.int .i64 0).cells (n*1)).toList):bH w' w.heap.size (List.replicate n 0):=by
 obtain⟨h1,h2⟩:=h
 rcases h2 with⟨h',_⟩|⟨g,cap,cur,h',_,hg,h3,_,h5,h6⟩
 ·cases h'
 ·injection h' with h7 h8 h9
  injection h7 with h7
  injection h7 with h7
  subst h7
  subst h9
  unfold bH
  rw[hg]
  congr 2
  have e1:cur.toList=(madeCells (Value.int .i64 0).cells (n*1)).toList:=by
   rw[←h6,List.take_of_length_le (by simp[h5])]
  have e2:(madeCells (Value.int .i64 0).cells (n*1)).toList=List.replicate (n*1) (Value.int .i64 0):=toList_madeCells_one _ _
  have e3:cur=(List.replicate (n*1) (Value.int .i64 0)).toArray:=by
   rw[←Array.toArray_toList (xs:=cur),e1,e2]
  rw[e3,Nat.mul_one,List.map_replicate]
def NQ(w:World)(a:Addr)(cap:Nat)(zs:List Int)(e:Ending)(w':World):Prop:=
 w=w'∧ ∃m:Nat,m≤zs.length∧(m≠0→gd zs (m-1)≠0)∧(∀j,m≤j→gd zs j=0)∧e=.returned (.slice (some a) m cap)
theorem zT(b off cap:Nat)(zs:List Int)(w:World)(hl:zs.length≤9223372036854775807)(hcap:zs.length≤cap)
 (hc: ∀i,i<zs.length→w.cell? ⟨b,off+i,none⟩=some (.int .i64 (gd zs i))):
 Calls Tryz.prog 183 #[.slice (some ⟨b,off,none⟩) zs.length cap] w (NQ w ⟨b,off,none⟩ cap zs):=by
 obtain⟨n,hn⟩: ∃n,zs.length=n:=⟨_,rfl⟩
 have HN:Hid (zs.length=n):=h_ hn
 rw[hn]at hl hcap hc⊢
 clear hn
 go_enter Tryz.func183,Tryz.ntmps183
 go_wp2_with fail
 go_loop [0] (fun i=> ∃m:Nat,m≤n∧i=.slice (some ⟨b,off,none⟩) m cap∧Hid (∀j,m≤j→gd zs j=0)) lenV
 case atStart=>exact⟨n,Nat.le_refl _,rfl,h_ fun j hj=>iL (by rw[HN.out];exact hj)⟩
 case round=>
  obtain⟨m,hm,rfl,hz⟩:=hrel
  rcases m with _|m
  ·clear hc
   go_wp2
   go_ret
   exact⟨rfl,0,by omega,fun h=>absurd rfl h,hz.out,rfl⟩
  ·have hcm:=hc m (by omega)
   clear hc
   by_cases h0:gd zs m=0
   ·have HZ:Hid (∀j,m≤j→gd zs j=0):=h_ fun j hj=>by
     by_cases e:j=m
     ·subst e;exact h0
     ·exact hz.out j (by omega)
    rw[h0]at hcm
    clear hz h0
    go_wp2
    go_round
    case rel=>exact⟨m,by omega,by first|rfl|go_num|skip,HZ⟩
    case measure=>simp[lenV]
   ·have hb:(gd zs m==0)=false:=by simpa using h0
    have H0:=h_ h0
    clear h0
    go_wp2
    go_ret
    exact⟨rfl,m+1,by rw[HN.out];omega,fun _=>H0.out,hz.out,rfl⟩
theorem as3{zs:List Int}{m:Nat}(hm:m≤zs.length)(h: ∀j,m≤j→gd zs j=0):nv (zs.take m)=nv zs:=by
 have h1:=gy zs m hm
 have h2:nv (zs.drop m)=0:=by
  have: ∀(l:List Int),(∀j,gd l j=0)→nv l=0:=by
   intro l
   induction l with
   |nil=>intro _;rfl
   |cons z l ih=>
    intro hl
    have h0:=hl 0
    rw[kP]at h0
    simp only[nv]
    rw[h0,ih (fun j=>by have:=hl (j+1);rwa [lJ]at this)];simp
  refine this _ fun j=>?_
  have:=h (m+j) (by omega)
  unfold gd at this⊢
  simpa using this
 rw[h2]at h1
 simpa using h1.symm
theorem Zm{zs:List Int}{m i:Nat}(h:i<m):gd (zs.take m) i=gd zs i:=by
 unfold gd;simp[List.getElem?_take,h]
theorem DC{w:World}{b off cap:Nat}{zs:List Int}(hr:Row w b off zs)(hb:Typ w b)(hw:Wd zs)(hcap:zs.length≤cap)(m:Nat)(hm:m≤zs.length)(h1:m≠0→gd zs (m-1)≠0)(h2: ∀j,m≤j→gd zs j=0):Nt w (.slice (some ⟨b,off,none⟩) m cap) (nv zs):=by
 have hv:=as3 hm h2
 by_cases h0:m=0
 ·subst h0
  rw[←hv]
  exact .inl ⟨rfl,_,_,rfl,fun h=>by cases h⟩
 ·have hl:(zs.take m).length=m:=by simp[Nat.min_eq_left hm]
  refine .inr ⟨b,off,cap,zs.take m,by rw[hl],⟨by omega,by omega,hb.lt,eP hw m,?_,hv,fun i hi=>?_,hb⟩⟩
  ·rw[hl,Zm (by omega)];exact h1 h0
  ·rw[Zm (by omega)];exact hr i (by omega)
end Go.Proofs.YtnapiakfbihnjaaGreatDoor.R
namespace Go.Proofs.YtnapiakfbihnjaaGreatDoor.R
open Go.RowKit Go.Shelf Tryz
theorem tX{za zb:List Int}(ha:Wd za)(hb:Wd zb)(hl:za.length=zb.length)(i:Nat)(hi:i<za.length)(hz: ∀j,i<j→gd za j=gd zb j)(hlt:gd za i<gd zb i):nv za<nv zb:=by
 have h1:=gy za (i+1) (by omega)
 have h2:=gy zb (i+1) (by omega)
 have h3:za.drop (i+1)=zb.drop (i+1):=by
  refine List.ext_getElem (by simp[hl]) ?_
  intro j h4 h5
  have h6:=hz (i+1+j) (by omega)
  rw[gK (by simp at h4;omega),gK (by simp at h5;omega)]at h6
  simpa using h6
 rw[jP za i hi,h3]at h1
 rw[jP zb i (by omega)]at h2
 have h4:=jb (eP ha i)
 have h5:=dw (eP hb i)
 rw[List.length_take,Nat.min_eq_left (by omega)]at h4
 have h6:=Int.mul_le_mul_of_nonneg_left (show gd za i≤gd zb i-1 by omega) (Int.le_of_lt (ji i))
 rw[Int.mul_sub]at h6
 omega
theorem AL{za zb:List Int}(ha:Wd za)(hb:Wd zb)(cb:Can zb)(nb:zb≠ [])(hl:za.length<zb.length):nv za<nv zb:=by
 have h1:=jb ha
 have h2:=tq hb cb nb
 have h3:pw^za.length≤pw^(zb.length-1):=bT (by omega)
 omega
theorem afj(ao bo:Option Addr)(la lb ca cb:Nat)(w:World)(hla:la≤2000)(hlb:lb≤2000)(hne:la<lb):
 Calls prog 116 #[.slice ao la ca,.slice bo lb cb] w fun e w'=>e=.returned (.int .i64 (-1))∧w=w':=by
 have hb:((la:Int) !=lb)=true:=by simp;omega
 go_enter func116,ntmps116
 go_wp2_with fail
 go_ret
 exact⟨rfl,rfl⟩
theorem afk(ao bo:Option Addr)(la lb ca cb:Nat)(w:World)(hla:la≤2000)(hlb:lb≤2000)(hne:lb<la):
 Calls prog 116 #[.slice ao la ca,.slice bo lb cb] w fun e w'=>e=.returned (.int .i64 1)∧w=w':=by
 have hb:((la:Int) !=lb)=true:=by simp;omega
 have hb2: ¬(la:Int)<lb:=by omega
 go_enter func116,ntmps116
 go_wp2_with fail
 go_ret
 exact⟨rfl,rfl⟩
theorem Nv(w:World)(ao bo:Option Addr)(ca cb:Nat):Calls prog 116 #[.slice ao 0 ca,.slice bo 0 cb] w fun e w'=>e=.returned (.int .i64 0)∧w=w':=by
 go_enter func116,ntmps116
 go_wp2
 refine wp_loop_rounds 1 ?_
 rw[rounds_succ]
 go_wp2
 go_ret
 exact⟨rfl,rfl⟩
theorem cmp_eq(w:World)(b off cap b2 aX cap2:Nat)(za zb:List Int)(hl:za.length=zb.length)(hk:za.length≤2000)(hca:za.length≤cap)(hcb:zb.length≤cap2)(ha:Wd za)(hb:Wd zb)
 (ra:Row w b off za) (rb:Row w b2 aX zb):
 Calls prog 116 #[.slice (some ⟨b,off,none⟩) za.length cap,.slice (some ⟨b2,aX,none⟩) zb.length cap2] w (jr w (.int .i64 (bW (nv za) (nv zb)))):=by
 rw[←hl]at hcb⊢
 have HL:=h_ hl
 clear hl
 obtain⟨k,hk'⟩: ∃k,za.length=k:=⟨_,rfl⟩
 have HK:=h_ hk'
 rw[hk']at hk hca hcb⊢
 clear hk'
 have hne:((k:Int) !=k)=false:=by simp
 have RA:=h_ ra
 have RB:=h_ rb
 have HA:=h_ ha
 have HB:=h_ hb
 clear ra rb ha hb
 go_enter func116,ntmps116
 go_wp2_with fail
 go_loopw [5] (fun i wr=> ∃m:Nat,m≤k∧i=.int .i64 ((m:Int)-1)∧aY w wr∧Hid (∀j,m≤j→gd za j=gd zb j)) (fun i _=>(intOf i+1).toNat)
 case atStart=>exact⟨k,Nat.le_refl _,by go_num,aY.refl _,h_ fun j hj=>by rw[iL (by rw[HK.out];exact hj),iL (by rw[←HL.out,HK.out];exact hj)]⟩
 case round=>
  obtain⟨m,hm,rfl,hd,hz⟩:=hrel
  rcases m with _|m
  ·go_wp2_with fail
   go_ret
   have e:za=zb:=by
    refine List.ext_getElem (by rw[HL.out]) ?_
    intro j h4 h5
    have h6:=hz.out j (by omega)
    rwa [gK h4,gK h5]at h6
   exact⟨by rw[e,yU];rfl,hd⟩
  ·have e:(((m+1:Nat):Int)-1)=(m:Int):=by omega
   rw[e]
   clear e
   have Ej:=(hd.cell _).trans (RA.out m (by rw[HK.out];omega))
   have Jv:=(hd.cell _).trans (RB.out m (by rw[←HL.out,HK.out];omega))
   have HD:=h_ hd
   clear hd
   by_cases h0:gd za m<gd zb m
   ·have H0:=h_ h0
    go_wp2_with fail
    go_quiet (fail)
    go_wp2_with fail
    go_ret
    refine⟨?_,HD.out.trans (aY.step _ _)⟩
    rw[iV (tX HA.out HB.out HL.out m (by rw[HK.out];omega) (fun j hj=>hz.out j (by omega)) H0.out)];rfl
   ·by_cases h1:gd zb m<gd za m
    ·have H1:=h_ h1
     go_wp2_with fail
     go_quiet (fail)
     go_wp2_with fail
     generalize hwq:wr.drewN nq=wq
     have hcb2:wq.cell? {block:=b2,off:=aX+m}=some (Value.int IntKind.i64 (gd zb m)):=by rw[←hwq];exact Jv
     have aqi:wq.cell? {block:=b,off:=off+m}=some (Value.int IntKind.i64 (gd za m)):=by rw[←hwq];exact Ej
     have HQ:Hid (aY wr wq):=h_ (hwq▸aY.step wr _)
     clear hwq Ej Jv
     go_quiet (fail)
     go_wp2_with fail
     go_ret
     refine⟨?_,HD.out.trans (HQ.out.trans (aY.step _ _))⟩
     rw[mJ (tX HB.out HA.out HL.out.symm m (by rw[←HL.out,HK.out];omega) (fun j hj=>(hz.out j (by omega)).symm) H1.out)];rfl
    ·have h2:gd za m=gd zb m:=by omega
     have HZ:Hid (∀j,m≤j→gd za j=gd zb j):=h_ fun j hj=>by
      by_cases e:j=m
      ·subst e;exact h2
      ·exact hz.out j (by omega)
     rw[h2]at Ej
     clear hz h0 h1 h2
     go_wp2_with fail
     go_quiet (fail)
     go_wp2_with fail
     generalize hwq:wr.drewN nq=wq
     have hcb2:wq.cell? {block:=b2,off:=aX+m}=some (Value.int IntKind.i64 (gd zb m)):=by rw[←hwq];exact Jv
     have aqi:wq.cell? {block:=b,off:=off+m}=some (Value.int IntKind.i64 (gd zb m)):=by rw[←hwq];exact Ej
     have HQ:Hid (aY wr wq):=h_ (hwq▸aY.step wr _)
     clear hwq Ej Jv
     go_quiet (fail)
     go_wp2_with fail
     go_roundw
     case rel=>exact⟨m,by omega,by go_num,HD.out.trans (HQ.out.trans (aY.step _ _)),HZ⟩
     case measure=>simp[intOf]<;>omega
theorem Ns.qK{w:World}{b off cap b2 aX cap2:Nat}{za zb:List Int}{x y:Int}(h:Ns w b off cap za x)(h2:Ns w b2 aX cap2 zb y)(hl:za.length<zb.length):x<y:=by
 have:=AL h.wd h2.wd h2.can h2.ne hl
 rwa [h.val,h2.val]at this
theorem lw(w:World)(va vb:Value)(x y:Int)(ha:Nt w va x)(hb:Nt w vb y)(hx:x<big)(hy:y<big):
 Calls prog 116 #[va,vb] w (jr w (.int .i64 (bW x y))):=by
 rcases ha with⟨rfl,p,c,rfl,_⟩|⟨b,off,cap,za,rfl,ha⟩<;>rcases hb with⟨rfl,p2,c2,rfl,_⟩|⟨b2,aX,cap2,zb,rfl,hb⟩
 ·refine(Nv w _ _ _ _).mono ?_
  rintro e w' ⟨rfl,rfl⟩
  exact⟨by rw[yU],aY.refl _⟩
 ·have h1:=hb.len hy;have h2:=hb.pos;have h3:=hb.npos
  refine(afj _ _ _ _ _ _ w (by omega) h1 (by omega)).mono ?_
  rintro e w' ⟨rfl,rfl⟩
  exact⟨by rw[iV h3],aY.refl _⟩
 ·have h1:=ha.len hx;have h2:=ha.pos;have h3:=ha.npos
  refine(afk _ _ _ _ _ _ w h1 (by omega) (by omega)).mono ?_
  rintro e w' ⟨rfl,rfl⟩
  exact⟨by rw[mJ h3],aY.refl _⟩
 ·have h1:=hb.len hy;have h2:=ha.len hx
  rcases Nat.lt_trichotomy za.length zb.length with h|h|h
  ·refine(afj _ _ _ _ _ _ w h2 h1 (by omega)).mono ?_
   rintro e w' ⟨rfl,rfl⟩
   exact⟨by rw[iV (ha.qK hb h)],aY.refl _⟩
  ·have:=cmp_eq w b off cap b2 aX cap2 za zb h h2 ha.cap hb.cap ha.wd hb.wd ha.row hb.row
   rw[ha.val,hb.val]at this
   exact this
  ·refine(afk _ _ _ _ _ _ w h2 h1 (by omega)).mono ?_
   rintro e w' ⟨rfl,rfl⟩
   exact⟨by rw[mJ (hb.qK ha h)],aY.refl _⟩
end Go.Proofs.YtnapiakfbihnjaaGreatDoor.R
