/-
  Numbers behind tokens, for this program: what stands behind a token is a value of exact.Num; the contracts of packages exact and floats as answers of calls.
-/
import Derived.Test.YtedhbbjlbgpafaaGreatDoorP12
import Derived.Test.YtedhbbjlbgpafaaGreatDoorP06
import Derived.Test.YtedhbbjlbgpafaaGreatDoorP16
set_option linter.unusedVariables false
set_option linter.unusedSimpArgs false
namespace Go.Proofs.YtedhbbjlbgpafaaGreatDoor
open Go.RowKit Go.Shelf Go.Canon
abbrev UT(w w1:World):Prop:=U (24,2) w w1
theorem Ns.u{w w1:World}{b off cap:Nat}{zs:List Int}{n:Int}(h:Ns w b off cap zs n)(hu:UT w w1):Ns w1 b off cap zs n:=by
 obtain⟨c,f,hb⟩:=h.ty
 have get: ∀i,i<zs.length→ ∃c' f',w1.heap[b]?=some (.cells c' 24 f')∧c'[off+i]?=some (.int .u64 (gd zs i)):=by
  intro i hi
  have h1:=h.row i hi
  unfold World.cell? at h1
  simp only[hb,Option.isSome_none,Bool.false_eq_true,if_false]at h1
  exact hu b c _ f (off+i) _ _ (.inl ⟨rfl,rfl⟩) hb h1
 obtain⟨c0,f0,h0,_⟩:=get 0 h.pos
 refine{h with row:=fun i hi=>?_,lt:=(Array.getElem?_eq_some_iff.1 h0).1,ty:=⟨c0,f0,h0⟩}
 obtain⟨c',f',k1,k2⟩:=get i hi
 unfold World.cell?
 simp[k1,k2]
theorem Nt.u{w w1:World}{v:Value}{n:Int}(h:Nt w v n)(hu:UT w w1):Nt w1 v n:=by
 rcases h with h|⟨b,off,cap,zs,e,h⟩
 ·exact .inl h
 ·exact .inr ⟨b,off,cap,zs,e,h.u hu⟩
theorem Nm.u{w w1:World}{v:Value}{s:Bool}{t b e:Int}(h:Nm w v s t b e)(hu:UT w w1):Nm w1 v s t b e:=by
 obtain⟨bo,lb,cb,bo2,lb2,cb2,h1,h2,h3⟩:=h.ex
 exact⟨bo,lb,cb,bo2,lb2,cb2,h1,h2.u hu,h3.imp id (fun h=>⟨h.1,h.2.u hu⟩)⟩
theorem Dn.u{w w1:World}{v:Value}{K k:Int}(h:Dn w v K k)(hu:UT w w1):Dn w1 v K k:=by
 obtain⟨s,t,e,h1,h2⟩:=h
 exact⟨s,t,e,h1.u hu,h2⟩
def tabO(o:Obj):Prop:= ∃c e f,o=.cells c e f∧ ∀j,j<Lib.deBruijn64tab.length→c[j]?=some (.int .u8 (Lib.deBruijn64tab.getD j 0))
theorem Qn.u{w w1:World}{v:Value}{K D k:Int}(h:Qn w v K D k)(hu:UT w w1):Qn w1 v K D k:=by
 obtain⟨s,t,b,e,h1,h2⟩:=h
 exact⟨s,t,b,e,h1.u hu,h2⟩
theorem R.Ns.u{w w1:World}{b off cap:Nat}{zs:List Int}{n:Int}(h:R.Ns w b off cap zs n)(hu:UT w w1):R.Ns w1 b off cap zs n:=by
 obtain⟨c,f,hb⟩:=h.ty
 have get: ∀i,i<zs.length→ ∃c' f',w1.heap[b]?=some (.cells c' 2 f')∧c'[off+i]?=some (.int .i64 (R.gd zs i)):=by
  intro i hi
  have h1:=h.row i hi
  unfold World.cell? at h1
  simp only[hb,Option.isSome_none,Bool.false_eq_true,if_false]at h1
  exact hu b c _ f (off+i) _ _ (.inr ⟨rfl,rfl⟩) hb h1
 obtain⟨c0,f0,h0,_⟩:=get 0 h.pos
 refine{h with row:=fun i hi=>?_,lt:=(Array.getElem?_eq_some_iff.1 h0).1,ty:=⟨c0,f0,h0⟩}
 obtain⟨c',f',k1,k2⟩:=get i hi
 unfold World.cell?
 simp[k1,k2]
theorem R.Nt.u{w w1:World}{v:Value}{n:Int}(h:R.Nt w v n)(hu:UT w w1):R.Nt w1 v n:=by
 rcases h with h|⟨b,off,cap,zs,e,h⟩
 ·exact .inl h
 ·exact .inr ⟨b,off,cap,zs,e,h.u hu⟩
theorem R.Rm.u{w w1:World}{v:Value}{s n d:Int}(h:R.Rm w v s n d)(hu:UT w w1):R.Rm w1 v s n d:=by
 obtain⟨bo,lb,cb,bo2,lb2,cb2,rfl,h1,h2⟩:=h.ex
 refine⟨_,_,_,_,_,_,rfl,h1.u hu,?_⟩
 rcases h2 with h|⟨h3,h4,h5,h6,h7⟩
 ·exact .inl h
 ·exact .inr ⟨h3,h4,h5,h6,h7.u hu⟩
theorem R.Rq.u{w w1:World}{v:Value}{K D:Int}(h:R.Rq w v K D)(hu:UT w w1):R.Rq w1 v K D:=by
 obtain⟨h0,s,n,d,h1,h2⟩:=h
 exact⟨h0,s,n,d,h1.u hu,h2⟩
def StrIs(d:List Int)(b:ByteArray):Prop:=match d with
 |[]=>True
 |[K,k]=> ∃s t e,Dr s t e K k∧b=⟨(txS s t 1 e).toArray⟩
 |_=>False
def isG(w:World)(t:Nat)(d:List Int)(x:Array Value):Prop:=match t,d with
 |0,[K,k]=>Dn w (.agg x) K k
 |1,[K,D,k]=>Qn w (.agg x) K D k
 |2,[K,D]=>R.Rq w (.agg x) K D
 |3,d=> ∃b,x= #[.string b]∧StrIs d b
 |_,_=>False
theorem isG_keep{w w1:World}{t:Nat}{d:List Int}{x:Array Value}(h:isG w t d x)(hu:UT w w1):isG w1 t d x:=by
 unfold isG at h⊢
 split at h
 ·exact h.u hu
 ·exact h.u hu
 ·exact h.u hu
 ·exact h
 ·exact h.elim
instance gh:Ghosts where
 gm:=true
 ty:=(24,2)
 is:=isG
 keep:=isG_keep
 fact:=fun _ o=>tabO o
theorem is_dn{w:World}{K k:Int}{x:Array Value}:Ghosts.is w 0 [K,k] x↔Dn w (.agg x) K k:=Iff.rfl
theorem is_qn{w:World}{K D k:Int}{x:Array Value}:Ghosts.is w 1 [K,D,k] x↔Qn w (.agg x) K D k:=Iff.rfl
theorem is_rq{w:World}{K D:Int}{x:Array Value}:Ghosts.is w 2 [K,D] x↔R.Rq w (.agg x) K D:=Iff.rfl
theorem is_st{w:World}{d:List Int}{x:Array Value}:Ghosts.is w 3 d x↔ ∃b,x= #[.string b]∧StrIs d b:=by cases d<;>exact Iff.rfl
theorem Dr.neg{s:Bool}{t e K k:Int}(h:Dr s t e K k):s=decide (K<0):=by
 rcases h with⟨_,rfl,_,rfl⟩|⟨_,hp,j,_,rfl⟩
 ·rfl
 ·have:=Int.mul_pos hp (p2pos j)
  cases s
  ·simp[sg];omega
  ·simp only[sg,if_true,Int.neg_mul]
   rw[decide_eq_true (by omega)]
theorem numG:NumG where
 gm:=rfl
 shape:=fun{w K k x} h=>by
  obtain⟨s,t,e,h1,h2⟩:=is_dn.1 h
  obtain⟨bo,lb,cb,bo2,lb2,cb2,h3,_⟩:=h1.ex
  injection h3 with h3
  exact⟨_,_,_,by rw[h3,h2.neg],rfl,rfl,rfl⟩
 shapeQ:=fun{w K D k x} h=>by
  obtain⟨s,t,b,e,h1,h2⟩:=is_qn.1 h
  obtain⟨bo,lb,cb,bo2,lb2,cb2,h3,_⟩:=h1.ex
  injection h3 with h3
  exact⟨_,_,_,by rw[h3,h2.neg],rfl,rfl,rfl⟩
 shapeR:=fun{w K D x} h=>by
  obtain⟨_,s,n,d,h1,_⟩:=is_rq.1 h
  obtain⟨bo,lb,cb,bo2,lb2,cb2,h3,_⟩:=h1.ex
  injection h3 with h3
  exact⟨_,_,_,h3,rfl,rfl,rfl⟩
 zeroR:=fun w=>is_rq.2 ⟨by decide,0,0,1,R.Rm.zero w,rfl⟩
 shapeS:=fun{w d x} h=>by
  obtain⟨b,h1,_⟩:=is_st.1 h
  exact⟨b,h1⟩
 zero:=fun w=>is_dn.2 ⟨false,0,0,⟨none,0,0,none,0,0,rfl,.zero w,.inl ⟨rfl,rfl⟩⟩,.inl ⟨rfl,rfl,rfl,rfl⟩⟩
def TT:Tabs:=⟨2,[]⟩
theorem envOf{T:Tabs}(hT:T.g=2){w:World}(h:EnvT T w):Env w:=by
 obtain⟨⟨o,h1,c,e,f,rfl,h2⟩,_⟩:=h
 rw[hT]at h1
 refine⟨fun j hj=>?_,(Array.getElem?_eq_some_iff.1 h1).1⟩
 unfold World.cell?
 simp[h1,h2 j hj]
def numT(K:Int):Value:=.agg #[.bool (decide (K<0)),.complex .f64 0 1,.complex .f64 0 2,.complex .f64 0 3]
def resN(K k:Int):Res:=⟨some (.d K k),numT K⟩
def resNE(K k e:Int):Res:=⟨some (.d K k),.tuple #[numT K,.int .i64 e]⟩
theorem num_rel{w:World}{K k:Int}{x:Array Value}(h:Ghosts.is w 0 [K,k] x)(ρ:Map)(n:Nat)(hn:ρ n=.num x):VRel ρ (numV n K) (.agg x):=by
 obtain⟨p,q,r,rfl,t1,t2,t3⟩:=numG.shape h
 exact VRel.agg_of (LRel.arel (l:=[_,_,_,_]) (l':=[_,_,_,_]) ⟨.bool _,.tok _ 1 _ _ hn rfl t1,.tok _ 2 _ _ hn rfl t2,.tok _ 3 _ _ hn rfl t3,trivial⟩)
theorem resN_is{w:World}{v:Value}{K k:Int}(h:Dn w v K k):ResIs w (resN K k) v:=by
 obtain⟨s,bo,lb,cb,bo2,lb2,cb2,e,rfl⟩:=h.shape
 exact⟨_,is_dn.2 h,fun ρ n hn=>num_rel (is_dn.2 h) ρ n hn⟩
theorem resNE_is{w:World}{v:Value}{K k e:Int}(h:Dn w v K k):ResIs w (resNE K k e) (.tuple #[v,.int .i64 e]):=by
 obtain⟨s,bo,lb,cb,bo2,lb2,cb2,e',rfl⟩:=h.shape
 exact⟨_,is_dn.2 h,fun ρ n hn=>VRel.tuple_of (LRel.arel (l:=[_,_]) (l':=[_,_]) ⟨num_rel (is_dn.2 h) ρ n hn,.int _ _,trivial⟩)⟩
theorem con_mk{g:FuncId}{xs:List Ar}{R:Res}(h: ∀w,Env w→ ∀l:List Value,AreArs w xs l→Calls Tryz.prog g ⟨l⟩ w fun e w1=> ∃v',e=.returned v'∧ResIs w1 R v'∧Below w.heap.size w w1):Con Tryz.prog TT g xs R:=
 fun w _ he args' ha=>h w (envOf rfl he) args'.toList ha
theorem areArs_cons{w:World}{a:Ar}{xs:List Ar}{l:List Value}(h:AreArs w (a::xs) l): ∃v vs,l=v::vs∧IsAr w a v∧AreArs w xs vs:=by
 cases l with
 |nil=>exact h.elim
 |cons v vs=>exact⟨v,vs,rfl,h.1,h.2⟩
theorem areArs_nil{w:World}{l:List Value}(h:AreArs w [] l):l=[]:=by
 cases l with
 |nil=>rfl
 |cons v vs=>exact h.elim
theorem isAr_n{w:World}{K k:Int}{v:Value}(h:IsAr w (.n K k) v):Dn w v K k:=by
 obtain⟨x,e,h1⟩:=h
 rw[e];exact is_dn.1 h1
theorem isAr_v{w:World}{x v:Value}(h:IsAr w (.v x) v):v=x:=h
theorem ars_n{w:World}{K k:Int}{l:List Value}(h:AreArs w [.n K k] l): ∃v,l=[v]∧Dn w v K k:=by
 obtain⟨v,vs,rfl,h1,h2⟩:=areArs_cons h
 rw[areArs_nil h2]
 exact⟨v,rfl,isAr_n h1⟩
theorem ars_nn{w:World}{K k L l0:Int}{l:List Value}(h:AreArs w [.n K k,.n L l0] l): ∃v u,l=[v,u]∧Dn w v K k∧Dn w u L l0:=by
 obtain⟨v,vs,rfl,h1,h2⟩:=areArs_cons h
 obtain⟨u,rfl,h3⟩:=ars_n h2
 exact⟨v,u,rfl,isAr_n h1,h3⟩
theorem ars_v{w:World}{y:Value}{l:List Value}(h:AreArs w [.v y] l):l=[y]:=by
 obtain⟨v,vs,rfl,h1,h2⟩:=areArs_cons h
 rw[areArs_nil h2,isAr_v h1]
theorem ars_nv{w:World}{K k:Int}{y:Value}{l:List Value}(h:AreArs w [.n K k,.v y] l): ∃v,l=[v,y]∧Dn w v K k:=by
 obtain⟨v,vs,rfl,h1,h2⟩:=areArs_cons h
 rw[ars_v h2]
 exact⟨v,rfl,isAr_n h1⟩
theorem ars_vv{w:World}{x y:Value}{l:List Value}(h:AreArs w [.v x,.v y] l):l=[x,y]:=by
 obtain⟨v,vs,rfl,h1,h2⟩:=areArs_cons h
 rw[ars_v h2,isAr_v h1]
theorem ars_vvv{w:World}{x y z:Value}{l:List Value}(h:AreArs w [.v x,.v y,.v z] l):l=[x,y,z]:=by
 obtain⟨v,vs,rfl,h1,h2⟩:=areArs_cons h
 rw[ars_vv h2,isAr_v h1]
theorem Dr.lower{s:Bool}{t e K k:Int}(h:Dr s t e K k)(j:Nat):Dr s t e (K*2^j) (k-j):=by
 rcases h with⟨h1,h2,h3,rfl⟩|⟨h1,h2,i,h3,rfl⟩
 ·exact .inl ⟨h1,h2,h3,by simp⟩
 ·exact .inr ⟨h1,h2,i+j,by omega,by rw[Int.mul_assoc,←Int.pow_add]⟩
theorem Dn.lower{w:World}{v:Value}{K k:Int}(h:Dn w v K k)(m:Int)(hm:m≤k):Dn w v (K*2^(k-m).toNat) m:=by
 obtain⟨s,t,e,h1,h2⟩:=h
 have:=h2.lower (k-m).toNat
 rw[show k-((k-m).toNat:Int)=m by omega]at this
 exact⟨s,t,e,h1,this⟩
def sgI(K:Int):Int:=if K=0 then 0 else if K<0 then-1 else 1
def inB(K k:Int):Prop:= -sml<K∧K<sml∧ -50000≤k∧k≤50000
instance (K k:Int):Decidable (inB K k):=by unfold inB;infer_instance
def upK(K1 k1 k2:Int):Int:=K1*2^(k1-min k1 k2).toNat
theorem sign_con(K k:Int):Con Tryz.prog TT 29 [.n K k] ⟨none,.int .i64 (sgI K)⟩:=con_mk fun w hE l ha=>by
 obtain⟨v,rfl,s,t,e,h1,h2⟩:=ars_n ha
 refine(sign_any w v s t 1 e h1).mono ?_
 rintro en w1 ⟨rfl,hb⟩
 refine⟨_,rfl,?_,hb⟩
 show Value.int .i64 (sgnI s t)=.int .i64 (sgI K)
 congr 1
 have hn:=h2.neg
 rcases h2 with⟨rfl,rfl,_,rfl⟩|⟨ho,hp,j,_,rfl⟩
 ·rfl
 ·have hne:sg s t*2^j≠0:=by
   have:=Int.mul_pos hp (p2pos j)
   cases s
   ·have e:sg false t=t:=rfl
    rw[e];omega
   ·have e:sg true t*2^j= -(t*2^j):=Int.neg_mul _ _
    omega
  unfold sgnI sgI
  rw[if_neg (by omega),if_neg hne]
  cases s
  ·have: ¬(sg false t*2^j<0):=by simpa using hn.symm
   simp[this]
  ·have:sg true t*2^j<0:=by simpa using hn.symm
   simp[this]
theorem neg_con(K k:Int):Con Tryz.prog TT 152 [.n K k] (resN (-K) k):=con_mk fun w hE l ha=>by
 obtain⟨v,rfl,h⟩:=ars_n ha
 refine(neg_dn w v K k h).mono ?_
 rintro en w1 ⟨v',rfl,h1,hb⟩
 exact⟨_,rfl,resN_is h1,hb⟩
theorem abs_con(K k:Int):Con Tryz.prog TT 85 [.n K k] (resN K.natAbs k):=con_mk fun w hE l ha=>by
 obtain⟨v,rfl,h⟩:=ars_n ha
 refine(abs_dn w v K k h).mono ?_
 rintro en w1 ⟨v',rfl,h1,hb⟩
 exact⟨_,rfl,resN_is h1,hb⟩
theorem add_con(K k L l:Int)(h1:inB (upK K k l) (min k l))(h2:inB (upK L l k) (min k l)):Con Tryz.prog TT 79 [.n K k,.n L l] (resN (upK K k l+upK L l k) (min k l)):=con_mk fun w hE x ha=>by
 obtain⟨v,u,rfl,a,b⟩:=ars_nn ha
 have a':=a.lower (min k l) (by omega)
 have b':=b.lower (min k l) (by omega)
 rw[show(l-min k l)=(l-min l k)by omega]at b'
 obtain⟨p1,p2,p3,p4⟩:=h1
 obtain⟨q1,q2,_,_⟩:=h2
 refine(add_any w hE v u _ _ _ a' b' ⟨p1,p2⟩ ⟨q1,q2⟩ ⟨p3,p4⟩).mono ?_
 rintro en w1 ⟨v',rfl,h1,hb⟩
 exact⟨_,rfl,resN_is h1,hb⟩
theorem sub_con(K k L l:Int)(h1:inB (upK K k l) (min k l))(h2:inB (upK L l k) (min k l)):Con Tryz.prog TT 77 [.n K k,.n L l] (resN (upK K k l-upK L l k) (min k l)):=con_mk fun w hE x ha=>by
 obtain⟨v,u,rfl,a,b⟩:=ars_nn ha
 have a':=a.lower (min k l) (by omega)
 have b':=b.lower (min k l) (by omega)
 rw[show(l-min k l)=(l-min l k)by omega]at b'
 obtain⟨p1,p2,p3,p4⟩:=h1
 obtain⟨q1,q2,_,_⟩:=h2
 refine(sub_any w hE v u _ _ _ a' b' ⟨p1,p2⟩ ⟨q1,q2⟩ ⟨p3,p4⟩).mono ?_
 rintro en w1 ⟨v',rfl,h1,hb⟩
 exact⟨_,rfl,resN_is h1,hb⟩
theorem cmp_con(K k L l:Int)(h1:inB (upK K k l) (min k l))(h2:inB (upK L l k) (min k l)):Con Tryz.prog TT 26 [.n K k,.n L l] ⟨none,.int .i64 (cmpI (upK K k l) (upK L l k))⟩:=con_mk fun w hE x ha=>by
 obtain⟨v,u,rfl,a,b⟩:=ars_nn ha
 have a':=a.lower (min k l) (by omega)
 have b':=b.lower (min k l) (by omega)
 rw[show(l-min k l)=(l-min l k)by omega]at b'
 obtain⟨p1,p2,p3,p4⟩:=h1
 obtain⟨q1,q2,_,_⟩:=h2
 refine(cmp_any w v u _ _ _ a' b' ⟨p1,p2⟩ ⟨q1,q2⟩ ⟨p3,p4⟩).mono ?_
 rintro en w1 ⟨rfl,hb⟩
 exact⟨_,rfl,rfl,hb⟩
end Go.Proofs.YtedhbbjlbgpafaaGreatDoor
