/-
  Numbers behind tokens, for this program: what stands behind a token is a value of exact.Num; the contracts of packages exact and floats as answers of calls.
-/
import Derived.Test.YtnapiakfbihnjaaGreatDoorP12
import Derived.Test.YtnapiakfbihnjaaGreatDoorP18
import Derived.Test.YtnapiakfbihnjaaGreatDoorP06
set_option linter.unusedVariables false
set_option linter.unusedSimpArgs false
namespace Go.Proofs.YtnapiakfbihnjaaGreatDoor
open Go.RowKit Go.Shelf Go.Canon Tryz
abbrev t_:Bool×Bool:=(true,true)
abbrev f_:Bool×Bool:=(false,false)
abbrev T_:Bool:=true
abbrev F_:Bool:=false
abbrev L_:=List (Bool×Bool)
abbrev UT(w w1:World):Prop:=U (24,2) w w1
theorem Ns.u{w w1:World}{b off cap:Nat}{zs:List Int}{n:Int}(h:Ns w b off cap zs n)(hu:UT w w1):Ns w1 b off cap zs n:=by
 obtain⟨c,f,hb⟩:=h.ty
 have get: ∀i,i<zs.length→ ∃c' f',w1.heap[b]?=some (.cells c' 24 f')∧c'[off+i]?=some (.int .u64 (gd zs i)):=by
  intro i hi
  have h1:=h.row i hi
  unfold World.cell? at h1
  simp only[hb,Option.isSome_none,Bool.false_eq_true,if_false]at h1
  exact hu b c _ f (off+i) _ _ (.inl ⟨rfl,rfl⟩) hb h1
 obtain⟨c0,f0,h0,_⟩:=get 0 h.pos
 refine{h with row:=fun i hi=>?_,lt:=(Array.getElem?_eq_some_iff.1 h0).1,ty:=⟨c0,f0,h0⟩}
 obtain⟨c',f',k1,k2⟩:=get i hi
 unfold World.cell?
 simp[k1,k2]
theorem Nt.u{w w1:World}{v:Value}{n:Int}(h:Nt w v n)(hu:UT w w1):Nt w1 v n:=by
 rcases h with h|⟨b,off,cap,zs,e,h⟩
 ·exact .inl h
 ·exact .inr ⟨b,off,cap,zs,e,h.u hu⟩
theorem Nm.u{w w1:World}{v:Value}{s:Bool}{t b e:Int}(h:Nm w v s t b e)(hu:UT w w1):Nm w1 v s t b e:=by
 obtain⟨bo,lb,cb,aU,aS,cb2,h1,h2,h3⟩:=h.ex
 exact⟨bo,lb,cb,aU,aS,cb2,h1,h2.u hu,h3.imp id (fun h=>⟨h.1,h.2.u hu⟩)⟩
theorem Dn.u{w w1:World}{v:Value}{K k:Int}(h:Dn w v K k)(hu:UT w w1):Dn w1 v K k:=by
 obtain⟨s,t,e,h1,h2⟩:=h
 exact⟨s,t,e,h1.u hu,h2⟩
def ayD(o:Obj):Prop:= ∃c e f,o=.cells c e f∧ ∀j,j<Lib.deBruijn64tab.length→c[j]?=some (.int .u8 (Lib.deBruijn64tab.getD j 0))
theorem Qn.u{w w1:World}{v:Value}{K D k:Int}(h:Qn w v K D k)(hu:UT w w1):Qn w1 v K D k:=by
 obtain⟨s,t,b,e,h1,h2⟩:=h
 exact⟨s,t,b,e,h1.u hu,h2⟩
theorem R.Ns.u{w w1:World}{b off cap:Nat}{zs:List Int}{n:Int}(h:R.Ns w b off cap zs n)(hu:UT w w1):R.Ns w1 b off cap zs n:=by
 obtain⟨c,f,hb⟩:=h.ty
 have get: ∀i,i<zs.length→ ∃c' f',w1.heap[b]?=some (.cells c' 2 f')∧c'[off+i]?=some (.int .i64 (R.gd zs i)):=by
  intro i hi
  have h1:=h.row i hi
  unfold World.cell? at h1
  simp only[hb,Option.isSome_none,Bool.false_eq_true,if_false]at h1
  exact hu b c _ f (off+i) _ _ (.inr ⟨rfl,rfl⟩) hb h1
 obtain⟨c0,f0,h0,_⟩:=get 0 h.pos
 refine{h with row:=fun i hi=>?_,lt:=(Array.getElem?_eq_some_iff.1 h0).1,ty:=⟨c0,f0,h0⟩}
 obtain⟨c',f',k1,k2⟩:=get i hi
 unfold World.cell?
 simp[k1,k2]
theorem R.Nt.u{w w1:World}{v:Value}{n:Int}(h:R.Nt w v n)(hu:UT w w1):R.Nt w1 v n:=by
 rcases h with h|⟨b,off,cap,zs,e,h⟩
 ·exact .inl h
 ·exact .inr ⟨b,off,cap,zs,e,h.u hu⟩
theorem R.Rm.u{w w1:World}{v:Value}{s n d:Int}(h:R.Rm w v s n d)(hu:UT w w1):R.Rm w1 v s n d:=by
 obtain⟨bo,lb,cb,aU,aS,cb2,rfl,h1,h2⟩:=h.ex
 refine⟨_,_,_,_,_,_,rfl,h1.u hu,?_⟩
 rcases h2 with h|⟨h3,h4,h5,h6,h7⟩
 ·exact .inl h
 ·exact .inr ⟨h3,h4,h5,h6,h7.u hu⟩
theorem R.Rq.u{w w1:World}{v:Value}{K D:Int}(h:R.Rq w v K D)(hu:UT w w1):R.Rq w1 v K D:=by
 obtain⟨h0,s,n,d,h1,h2⟩:=h
 exact⟨h0,s,n,d,h1.u hu,h2⟩
def ajI(d:List Int)(_:ByteArray):Prop:=match d with
 |[]=>True
 |_=>False
def isG(w:World)(t:Nat)(d:List Int)(x:Array Value):Prop:=match t,d with
 |0,[K,k]=>Dn w (.agg x) K k
 |1,[K,D,k]=>Qn w (.agg x) K D k
 |2,[K,D]=>R.Rq w (.agg x) K D
 |3,d=> ∃b,x= #[.string b]∧ajI d b
 |_,_=>False
theorem ahx{w w1:World}{t:Nat}{d:List Int}{x:Array Value}(h:isG w t d x)(hu:UT w w1):isG w1 t d x:=by
 unfold isG at h⊢
 split at h
 ·exact h.u hu
 ·exact h.u hu
 ·exact h.u hu
 ·exact h
 ·exact h.elim
instance gh:aT where
 gm:=true
 ty:=(24,2)
 is:=isG
 keep:=ahx
 fact:=fun _ o=>ayD o
theorem Be{w:World}{K k:Int}{x:Array Value}:aT.is w 0 [K,k] x↔Dn w (.agg x) K k:=Iff.rfl
theorem Ik{w:World}{K D k:Int}{x:Array Value}:aT.is w 1 [K,D,k] x↔Qn w (.agg x) K D k:=Iff.rfl
theorem ajM{w:World}{K D:Int}{x:Array Value}:aT.is w 2 [K,D] x↔R.Rq w (.agg x) K D:=Iff.rfl
theorem ajN{w:World}{d:List Int}{x:Array Value}:aT.is w 3 d x↔ ∃b,x= #[.string b]∧ajI d b:=by cases d<;>exact Iff.rfl
theorem Dr.neg{s:Bool}{t e K k:Int}(h:Dr s t e K k):s=decide (K<0):=by
 rcases h with⟨_,rfl,_,rfl⟩|⟨_,hp,j,_,rfl⟩
 ·rfl
 ·have:=Int.mul_pos hp (au j)
  cases s
  ·simp[sg];omega
  ·simp only[sg,if_true,Int.neg_mul]
   rw[decide_eq_true (by omega)]
theorem dH:RP where
 gm:=rfl
 shape:=fun{w K k x} h=>by
  obtain⟨s,t,e,h1,h2⟩:=Be.1 h
  obtain⟨bo,lb,cb,aU,aS,cb2,h3,_⟩:=h1.ex
  injection h3 with h3
  exact⟨_,_,_,by rw[h3,h2.neg],rfl,rfl,rfl⟩
 KJ:=fun{w K D k x} h=>by
  obtain⟨s,t,b,e,h1,h2⟩:=Ik.1 h
  obtain⟨bo,lb,cb,aU,aS,cb2,h3,_⟩:=h1.ex
  injection h3 with h3
  exact⟨_,_,_,by rw[h3,h2.neg],rfl,rfl,rfl⟩
 RQ:=fun{w K D x} h=>by
  obtain⟨_,s,n,d,h1,_⟩:=ajM.1 h
  obtain⟨bo,lb,cb,aU,aS,cb2,h3,_⟩:=h1.ex
  injection h3 with h3
  exact⟨_,_,_,h3,rfl,rfl,rfl⟩
 KH:=fun w=>ajM.2 ⟨by decide,0,0,1,R.Rm.zero w,rfl⟩
 RS:=fun{w d x} h=>by
  obtain⟨b,h1,_⟩:=ajN.1 h
  exact⟨b,h1⟩
 zero:=fun w=>Be.2 ⟨false,0,0,⟨none,0,0,none,0,0,rfl,.zero w,.inl ⟨rfl,rfl⟩⟩,.inl ⟨rfl,rfl,rfl,rfl⟩⟩
def TT:Tabs:=⟨1,[]⟩
theorem avR{T:Tabs}(hT:T.g=1){w:World}(h:RV T w):Env w:=by
 obtain⟨⟨o,h1,c,e,f,rfl,h2⟩,_⟩:=h
 rw[hT]at h1
 refine⟨fun j hj=>?_,(Array.getElem?_eq_some_iff.1 h1).1⟩
 unfold World.cell?
 simp[h1,h2 j hj]
def qj(K:Int):Value:=.agg #[.bool (decide (K<0)),.complex .f64 0 1,.complex .f64 0 2,.complex .f64 0 3]
def lS(K k:Int):bP:=⟨some (.d K k),qj K⟩
def aa5(K k e:Int):bP:=⟨some (.d K k),.tuple #[qj K,.int .i64 e]⟩
theorem anV{w:World}{K k:Int}{x:Array Value}(h:aT.is w 0 [K,k] x)(ρ:Map)(n:Nat)(hn:ρ n=.num x):aJ ρ (Nr n K) (.agg x):=by
 obtain⟨p,q,r,rfl,t1,t2,t3⟩:=dH.shape h
 exact aJ.ou (jU.tH (l:=[_,_,_,_]) (l':=[_,_,_,_]) ⟨.bool _,.tok _ 1 _ _ hn rfl t1,.tok _ 2 _ _ hn rfl t2,.tok _ 3 _ _ hn rfl t3,trivial⟩)
theorem uw{w:World}{v:Value}{K k:Int}(h:Dn w v K k):jA w (lS K k) v:=by
 obtain⟨s,bo,lb,cb,aU,aS,cb2,e,rfl⟩:=h.shape
 exact⟨_,Be.2 h,fun ρ n hn=>anV (Be.2 h) ρ n hn⟩
theorem Ul{w:World}{K D k:Int}{x:Array Value}(h:aT.is w 1 [K,D,k] x)(ρ:Map)(n:Nat)(hn:ρ n=.num x):aJ ρ (Nr n K) (.agg x):=by
 obtain⟨p,q,r,rfl,t1,t2,t3⟩:=dH.KJ h
 exact aJ.ou (jU.tH (l:=[_,_,_,_]) (l':=[_,_,_,_]) ⟨.bool _,.tok _ 1 _ _ hn rfl t1,.tok _ 2 _ _ hn rfl t2,.tok _ 3 _ _ hn rfl t3,trivial⟩)
def Um(K D k:Int):bP:=⟨some (.q K D k),qj K⟩
def aa7(K D k e:Int):bP:=⟨some (.q K D k),.tuple #[qj K,.int .i64 e]⟩
theorem YP{w:World}{v:Value}{K D k:Int}(h:Qn w v K D k):jA w (Um K D k) v:=by
 obtain⟨s,bo,lb,cb,aU,aS,cb2,e,rfl⟩:=h.shape
 exact⟨_,Ik.2 h,fun ρ n hn=>Ul (Ik.2 h) ρ n hn⟩
theorem ahy{w:World}{v:Value}{K D k e:Int}(h:Qn w v K D k):jA w (aa7 K D k e) (.tuple #[v,.int .i64 e]):=by
 obtain⟨s,bo,lb,cb,aU,aS,cb2,e',rfl⟩:=h.shape
 exact⟨_,Ik.2 h,fun ρ n hn=>aJ.DV (jU.tH (l:=[_,_]) (l':=[_,_]) ⟨Ul (Ik.2 h) ρ n hn,.int _ _,trivial⟩)⟩
theorem iJ{g:FuncId}{xs:List Ar}{R:bP}(h: ∀w,Env w→ ∀l:List Value,kL w xs l→Calls prog g ⟨l⟩ w fun e w1=> ∃v',e=.returned v'∧jA w1 R v'∧Below w.heap.size w w1):dU prog TT g xs R:=
 fun w _ he args' ha=>h w (avR rfl he) args'.toList ha
theorem mD{w:World}{a:Ar}{xs:List Ar}{l:List Value}(h:kL w (a::xs) l): ∃v vs,l=v::vs∧Gf w a v∧kL w xs vs:=by
 cases l with
 |nil=>exact h.elim
 |cons v vs=>exact⟨v,vs,rfl,h.1,h.2⟩
theorem uK{w:World}{l:List Value}(h:kL w [] l):l=[]:=by
 cases l with
 |nil=>rfl
 |cons v vs=>exact h.elim
theorem Uo{w:World}{K k:Int}{v:Value}(h:Gf w (.n K k) v):Dn w v K k:=by
 obtain⟨x,e,h1⟩:=h
 rw[e];exact Be.1 h1
theorem ad4{w:World}{K D k:Int}{v:Value}(h:Gf w (.q K D k) v):Qn w v K D k:=by
 obtain⟨x,e,h1⟩:=h
 rw[e];exact Ik.1 h1
theorem Ur{w:World}{x v:Value}(h:Gf w (.v x) v):v=x:=h
theorem yK{w:World}{K k:Int}{l:List Value}(h:kL w [.n K k] l): ∃v,l=[v]∧Dn w v K k:=by
 obtain⟨v,vs,rfl,h1,h2⟩:=mD h
 rw[uK h2]
 exact⟨v,rfl,Uo h1⟩
theorem Ut{w:World}{K k L l0:Int}{l:List Value}(h:kL w [.n K k,.n L l0] l): ∃v u,l=[v,u]∧Dn w v K k∧Dn w u L l0:=by
 obtain⟨v,vs,rfl,h1,h2⟩:=mD h
 obtain⟨u,rfl,h3⟩:=yK h2
 exact⟨v,u,rfl,Uo h1,h3⟩
theorem wR{w:World}{y:Value}{l:List Value}(h:kL w [.v y] l):l=[y]:=by
 obtain⟨v,vs,rfl,h1,h2⟩:=mD h
 rw[uK h2,Ur h1]
theorem aqk{w:World}{K k:Int}{y:Value}{l:List Value}(h:kL w [.n K k,.v y] l): ∃v,l=[v,y]∧Dn w v K k:=by
 obtain⟨v,vs,rfl,h1,h2⟩:=mD h
 rw[wR h2]
 exact⟨v,rfl,Uo h1⟩
theorem xI{w:World}{x y:Value}{l:List Value}(h:kL w [.v x,.v y] l):l=[x,y]:=by
 obtain⟨v,vs,rfl,h1,h2⟩:=mD h
 rw[wR h2,Ur h1]
theorem YC{w:World}{x y z:Value}{l:List Value}(h:kL w [.v x,.v y,.v z] l):l=[x,y,z]:=by
 obtain⟨v,vs,rfl,h1,h2⟩:=mD h
 rw[xI h2,Ur h1]
theorem Dr.lower{s:Bool}{t e K k:Int}(h:Dr s t e K k)(j:Nat):Dr s t e (K*2^j) (k-j):=by
 rcases h with⟨h1,h2,h3,rfl⟩|⟨h1,h2,i,h3,rfl⟩
 ·exact .inl ⟨h1,h2,h3,by simp⟩
 ·exact .inr ⟨h1,h2,i+j,by omega,by rw[Int.mul_assoc,←Int.pow_add]⟩
theorem Dn.lower{w:World}{v:Value}{K k:Int}(h:Dn w v K k)(m:Int)(hm:m≤k):Dn w v (K*2^(k-m).toNat) m:=by
 obtain⟨s,t,e,h1,h2⟩:=h
 have:=h2.lower (k-m).toNat
 rw[show k-((k-m).toNat:Int)=m by omega]at this
 exact⟨s,t,e,h1,this⟩
def pV(K:Int):Int:=if K=0 then 0 else if K<0 then-1 else 1
def inB(K k:Int):Prop:= -gz<K∧K<gz∧ -50000≤k∧k≤50000
instance (K k:Int):Decidable (inB K k):=by unfold inB;infer_instance
def Bf(K1 k1 k2:Int):Int:=K1*2^(k1-min k1 k2).toNat
theorem ahz(K k:Int):dU prog TT 24 [.n K k] ⟨none,.int .i64 (pV K)⟩:=iJ fun w hE l ha=>by
 obtain⟨v,rfl,s,t,e,h1,h2⟩:=yK ha
 refine(Uu w v s t 1 e h1).mono ?_
 rintro en w1 ⟨rfl,hb⟩
 refine⟨_,rfl,?_,hb⟩
 show Value.int .i64 (JH s t)=.int .i64 (pV K)
 congr 1
 have hn:=h2.neg
 rcases h2 with⟨rfl,rfl,_,rfl⟩|⟨ho,hp,j,_,rfl⟩
 ·rfl
 ·have hne:sg s t*2^j≠0:=by
   have:=Int.mul_pos hp (au j)
   cases s
   ·have e:sg false t=t:=rfl
    rw[e];omega
   ·have e:sg true t*2^j= -(t*2^j):=Int.neg_mul _ _
    omega
  unfold JH pV
  rw[if_neg (by omega),if_neg hne]
  cases s
  ·have: ¬(sg false t*2^j<0):=by simpa using hn.symm
   simp[this]
  ·have:sg true t*2^j<0:=by simpa using hn.symm
   simp[this]
theorem anW(K k:Int):dU prog TT 149 [.n K k] (lS (-K) k):=iJ fun w hE l ha=>by
 obtain⟨v,rfl,h⟩:=yK ha
 refine(ad5 w v K k h).mono ?_
 rintro en w1 ⟨v',rfl,h1,hb⟩
 exact⟨_,rfl,uw h1,hb⟩
theorem anX(K k:Int):dU prog TT 195 [.n K k] (lS K.natAbs k):=iJ fun w hE l ha=>by
 obtain⟨v,rfl,h⟩:=yK ha
 refine(aro w v K k h).mono ?_
 rintro en w1 ⟨v',rfl,h1,hb⟩
 exact⟨_,rfl,uw h1,hb⟩
theorem anY(K k L l:Int)(h1:inB (Bf K k l) (min k l))(h2:inB (Bf L l k) (min k l)):dU prog TT 71 [.n K k,.n L l] (lS (Bf K k l+Bf L l k) (min k l)):=iJ fun w hE x ha=>by
 obtain⟨v,u,rfl,a,b⟩:=Ut ha
 have a':=a.lower (min k l) (by omega)
 have b':=b.lower (min k l) (by omega)
 rw[show(l-min k l)=(l-min l k)by omega]at b'
 obtain⟨p1,p2,p3,p4⟩:=h1
 obtain⟨q1,q2,_,_⟩:=h2
 refine(add_any w hE v u _ _ _ a' b' ⟨p1,p2⟩ ⟨q1,q2⟩ ⟨p3,p4⟩).mono ?_
 rintro en w1 ⟨v',rfl,h1,hb⟩
 exact⟨_,rfl,uw h1,hb⟩
end Go.Proofs.YtnapiakfbihnjaaGreatDoor
