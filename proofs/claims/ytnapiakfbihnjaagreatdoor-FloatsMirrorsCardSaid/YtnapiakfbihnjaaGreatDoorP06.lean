/-
  A contract out of a run with unknown numbers.
-/
import Derived.Test.YtnapiakfbihnjaaGreatDoorP05
set_option linter.unusedVariables false
set_option linter.unusedSimpArgs false
set_option linter.unusedSectionVars false
namespace Go.Canon
open Go.RowKit
variable [aT]
def Df(T:Tabs):Tree gW:=xB T.ro (Tree.set 40 .leaf T.g (.fact 0))
def ja:List Ar→Nat→Tree gW→Tree gW
 |[],_,t=>t
 |.n K k::as,i,t=>ja as (i+1) (t.set 40 i (.ghost 0 [K,k]))
 |.q K D k::as,i,t=>ja as (i+1) (t.set 40 i (.ghost 1 [K,D,k]))
 |.r K D::as,i,t=>ja as (i+1) (t.set 40 i (.ghost 2 [K,D]))
 |.s d::as,i,t=>ja as (i+1) (t.set 40 i (.ghost 3 d))
 |.v _::as,i,t=>ja as (i+1) t
def rq:List Ar→Nat→List Value
 |[],_=>[]
 |.n K _::as,i=>Nr i K::rq as (i+1)
 |.q K _ _::as,i=>Nr i K::rq as (i+1)
 |.r _ _::as,i=>aqc i::rq as (i+1)
 |.s _::as,i=>.complex .f64 i 0::rq as (i+1)
 |.v x::as,i=>x::rq as (i+1)
def RY(P:Program)(T:Tabs)(as:List Ar)(an:List Bool):St:={t:=ja as P.globals.size (Df T),n:=P.globals.size+as.length,r:=0,w:=0,an:=an,cs:=[]}
theorem gU: ∀(as:List Ar) (i:Nat) (t:Tree gW) (b:Nat),i+as.length<2^39→(ja as i t).get b=if i≤b then(match as[b-i]? with|some (.n K k)=>some (.ghost 0 [K,k])|some (.q K D k)=>some (.ghost 1 [K,D,k])|some (.r K D)=>some (.ghost 2 [K,D])|some (.s d)=>some (.ghost 3 d)|_=>t.get b)else t.get b
 |[],i,t,b,_=>by simp[ja]
 |a::as,i,t,b,h=>by
  simp only[List.length_cons]at h
  by_cases h1:i≤b
  ·rw[if_pos h1]
   by_cases h2:b=i
   ·subst h2
    cases a with
    |n K k=>
     rw[ja,gU as _ _ _ (by omega),if_neg (by omega),Tree.dO 40 _ _ _ _ (by omega),if_pos rfl]
     simp
    |q K D k=>
     rw[ja,gU as _ _ _ (by omega),if_neg (by omega),Tree.dO 40 _ _ _ _ (by omega),if_pos rfl]
     simp
    |r K D=>
     rw[ja,gU as _ _ _ (by omega),if_neg (by omega),Tree.dO 40 _ _ _ _ (by omega),if_pos rfl]
     simp
    |s d=>
     rw[ja,gU as _ _ _ (by omega),if_neg (by omega),Tree.dO 40 _ _ _ _ (by omega),if_pos rfl]
     simp
    |v x=>
     rw[ja,gU as _ _ _ (by omega),if_neg (by omega)]
     simp
   ·have e:b-i=(b-(i+1))+1:=by omega
    rw[e,List.getElem?_cons_succ]
    cases a with
    |n K k=>rw[ja,gU as _ _ _ (by omega),if_pos (by omega),Tree.dO 40 _ _ _ _ (by omega),if_neg h2]
    |q K D k=>rw[ja,gU as _ _ _ (by omega),if_pos (by omega),Tree.dO 40 _ _ _ _ (by omega),if_neg h2]
    |r K D=>rw[ja,gU as _ _ _ (by omega),if_pos (by omega),Tree.dO 40 _ _ _ _ (by omega),if_neg h2]
    |s d=>rw[ja,gU as _ _ _ (by omega),if_pos (by omega),Tree.dO 40 _ _ _ _ (by omega),if_neg h2]
    |v x=>rw[ja,gU as _ _ _ (by omega),if_pos (by omega)]
  ·rw[if_neg h1]
   cases a with
   |n K k=>rw[ja,gU as _ _ _ (by omega),if_neg (by omega),Tree.dO 40 _ _ _ _ (by omega),if_neg (by omega)]
   |q K D k=>rw[ja,gU as _ _ _ (by omega),if_neg (by omega),Tree.dO 40 _ _ _ _ (by omega),if_neg (by omega)]
   |r K D=>rw[ja,gU as _ _ _ (by omega),if_neg (by omega),Tree.dO 40 _ _ _ _ (by omega),if_neg (by omega)]
   |s d=>rw[ja,gU as _ _ _ (by omega),if_neg (by omega),Tree.dO 40 _ _ _ _ (by omega),if_neg (by omega)]
   |v x=>rw[ja,gU as _ _ _ (by omega),if_neg (by omega)]
def mW(N:Nat)(as:List Ar)(vs:List Value):Map:=fun b=>if b<N then .hard b else match as[b-N]?,vs[b-N]? with
 |some (.n _ _),some (.agg x)=>.num x
 |some (.q _ _ _),some (.agg x)=>.num x
 |some (.r _ _),some (.agg x)=>.num x
 |some (.s _),some x=>.num #[x]
 |_,_=>.none
theorem yI{N:Nat}{as:List Ar}{vs:List Value}{b x:Nat}(h:(mW N as vs b).tgt=some x):b<N∧x=b:=by
 unfold mW at h
 split at h
 ·rename_i hb;injection h with h;exact⟨hb,h.symm⟩
 ·split at h<;>cases h
theorem kL.get{w:World}: ∀{as:List Ar} {vs:List Value},kL w as vs→as.length=vs.length∧ ∀(i:Nat) (a:Ar),as[i]?=some a→ ∃v,vs[i]?=some v∧Gf w a v
 |[],[],_=>⟨rfl,fun i a h=>by simp at h⟩
 |a::as,v::vs,h=>by
  obtain⟨k1,k2⟩:=kL.get h.2
  refine⟨by simp[k1],fun i b hb=>?_⟩
  cases i with
  |zero=>simp only[List.getElem?_cons_zero,Option.some.injEq]at hb;subst hb;exact⟨v,rfl,h.1⟩
  |succ i=>simpa using k2 i b (by simpa using hb)
 |[],_::_,h=>h.elim
 |_::_,[],h=>h.elim
theorem Oz: ∀(as:List Ar) (i j:Nat),(rq as i)[j]?=(as[j]?).map fun a=>match a with|.n K _=>Nr (i+j) K|.q K _ _=>Nr (i+j) K|.r _ _=>aqc (i+j)|.s _=>.complex .f64 (i+j) 0|.v x=>x
 |[],i,j=>by simp[rq]
 |a::as,i,j=>by
  cases j with
  |zero=>cases a<;>simp[rq]
  |succ j=>
   have:=Oz as (i+1) j
   rw[show i+1+j=i+(j+1)by omega]at this
   cases a<;>simpa [rq]using this
theorem adb(as:List Ar)(i:Nat):(rq as i).length=as.length:=by
 induction as generalizing i with
 |nil=>rfl
 |cons a as ih=>cases a<;>simp[rq,ih]
def Nu:Nat→Value→Bool
 |d+1,v=>match v with
  |.complex .f64 _ _=>true
  |.agg x=>x.toList.all (Nu d)
  |.tuple x=>x.toList.all (Nu d)
  |v=>ground 9 v
 |0,v=>ground 9 v
theorem ade{ρ ρ':Map}{n n':Nat}{x:Array Value}(h1:ρ n=.num x)(h2:ρ' n'=.num x): ∀(d:Nat) (t:Value),Nu d t=true→ ∀v',aJ ρ (subst n d t) v'→aJ ρ' (subst n' d t) v':=by
 have gr: ∀(v v':Value),ground 9 v=true→aJ ρ v v'→aJ ρ' v v':=fun v v' hg hv=>by
  rw[ground_eq 9 v hg ρ v' hv];exact jQ 9 v hg ρ'
 intro d
 induction d with
 |zero=>intro t ht v' hv;exact gr _ _ ht hv
 |succ d ih=>
  have arr: ∀(y z:Array Value),y.toList.all (Nu d)=true→(⟨y.toList.map (subst n d)⟩:Array Value).size=z.size→(∀(i:Nat) (h:i<(⟨y.toList.map (subst n d)⟩:Array Value).size) (h':i<z.size),aJ ρ (⟨y.toList.map (subst n d)⟩:Array Value)[i] z[i])→
   (⟨y.toList.map (subst n' d)⟩:Array Value).size=z.size∧ ∀(i:Nat) (h:i<(⟨y.toList.map (subst n' d)⟩:Array Value).size) (h':i<z.size),aJ ρ' (⟨y.toList.map (subst n' d)⟩:Array Value)[i] z[i]:=by
   intro y z hy hs hi
   rw[List.all_eq_true]at hy
   refine⟨by simpa using hs,fun i k1 k2=>?_⟩
   have k3:i<y.size:=by simpa using k1
   have:=hi i (by simpa using k3) k2
   simp only[List.getElem_toArray,List.getElem_map]at this⊢
   exact ih _ (hy _ (List.getElem_mem _)) _ this
  intro t ht v' hv
  unfold Nu at ht
  split at ht
  ·rename_i j k
   simp only[subst]at hv⊢
   cases hv with
   |tok _ _ y _ e1 e2 e3=>rw[h1]at e1;injection e1 with e1;subst e1;exact .tok _ _ _ _ h2 e2 e3
  ·rename_i y
   simp only[subst]at hv⊢
   cases hv with
   |agg _ z e1 e2=>obtain⟨k1,k2⟩:=arr y z ht e1 e2;exact .agg _ _ k1 k2
  ·rename_i y
   simp only[subst]at hv⊢
   cases hv with
   |tuple _ z e1 e2=>obtain⟨k1,k2⟩:=arr y z ht e1 e2;exact .tuple _ _ k1 k2
  ·rename_i q1 q2 q3
   have e: ∀m,subst m (d+1) t=t:=by
    intro m
    unfold subst
    split
    ·rename_i k a b
     cases k with
     |f64=>exact absurd rfl (q1 a b)
     |f32=>simp[ground]at ht
    ·exact absurd rfl (q2 _)
    ·exact absurd rfl (q3 _)
    ·rfl
   rw[e]at hv⊢
   exact gr _ _ ht hv
def dJ(P:Program)(T:Tabs)(call:CF→St→Option (Value×St))(fuel g:Nat)(as:List Ar)(an:List Bool)(n:Nat):Option (Value×Option gW×List (Bool×Bool)):=
 match aak P call fuel g ⟨rq as P.globals.size⟩ (RY P T as an)with
 |some (v,s)=>match Nat.beq (s.w%2^P.globals.size) 0&&Nat.ble (n+1) s.n with
  |true=>some (v,s.t.get n,s.cs)
  |false=>none
 |none=>none
def Fits(R:bP)(n:Nat)(v:Value)(o:Option gW):Prop:=
 match R.g with
 |none=>v=R.t∧ground 9 R.t=true
 |some g=>v=subst n 4 R.t∧Nu 4 R.t=true∧o=some (.ghost g.tag g.data)
theorem nJ(hN:RP){P:Program}(hP:NG P)(hm:P.follows .mixedOrders=true){T:Tabs}(hT:T.g<P.globals.size)(hro: ∀p∈T.ro,p.1<P.globals.size∧p.2.all (ground 3)=true∧p.1≠T.g)(h39:P.globals.size<2^38)
 {call:CF→St→Option (Value×St)} (hcall:aN P call) {fuel g:Nat} {as:List Ar} (hlen:as.length<2^38) (hgr: ∀x,Ar.v x∈as→ground 9 x=true) {an:List Bool} {n:Nat} {v:Value} {o:Option gW} {cs:List (Bool×Bool)}
 (h:dJ P T call fuel g as an n=some (v,o,cs)) (hcs: ∀c∈cs,c.1=c.2) {R:bP} (hfit:Fits R n v o):dU P T g as R:=by
 unfold dJ at h
 split at h
 ·rename_i v0 s1 hrun
  split at h
  ·rename_i aqd
   injection h with h;injection h with e1 h;injection h with e2 e3
   subst e1 e2 e3
   rw[Bool.and_eq_true,Nat.ble_eq]at aqd
   have hlow:=Nat.eq_of_beq_eq_true aqd.1
   intro w hw henv args' agP
   obtain⟨ayv,RZ⟩:=agP.get
   let ρ:=mW P.globals.size as args'.toList
   have hρ: ∀b,b<P.globals.size→ρ b=.hard b:=fun b hb=>by show mW _ _ _ b=_;unfold mW;rw[if_pos hb]
   have hnum: ∀(i:Nat) (K k:Int),as[i]?=some (.n K k)→ ∃x,args'[i]?=some (.agg x)∧aT.is w 0 [K,k] x∧ρ (P.globals.size+i)=.num x:=by
    intro i K k hi
    obtain⟨v,h1,x,rfl,h2⟩:=RZ i _ hi
    refine⟨x,by rw[←Array.getElem?_toList];exact h1,h2,?_⟩
    show mW _ _ _ _=_
    unfold mW
    rw[if_neg (by omega),show P.globals.size+i-P.globals.size=i by omega,hi,h1]
   have ajn: ∀(i:Nat) (K D k:Int),as[i]?=some (.q K D k)→ ∃x,args'[i]?=some (.agg x)∧aT.is w 1 [K,D,k] x∧ρ (P.globals.size+i)=.num x:=by
    intro i K D k hi
    obtain⟨v,h1,x,rfl,h2⟩:=RZ i _ hi
    refine⟨x,by rw[←Array.getElem?_toList];exact h1,h2,?_⟩
    show mW _ _ _ _=_
    unfold mW
    rw[if_neg (by omega),show P.globals.size+i-P.globals.size=i by omega,hi,h1]
   have ajo: ∀(i:Nat) (K D:Int),as[i]?=some (.r K D)→ ∃x,args'[i]?=some (.agg x)∧aT.is w 2 [K,D] x∧ρ (P.globals.size+i)=.num x:=by
    intro i K D hi
    obtain⟨v,h1,x,rfl,h2⟩:=RZ i _ hi
    refine⟨x,by rw[←Array.getElem?_toList];exact h1,h2,?_⟩
    show mW _ _ _ _=_
    unfold mW
    rw[if_neg (by omega),show P.globals.size+i-P.globals.size=i by omega,hi,h1]
   have ajp: ∀(i:Nat) (d:List Int),as[i]?=some (.s d)→ ∃v,args'[i]?=some v∧aT.is w 3 d #[v]∧ρ (P.globals.size+i)=.num #[v]:=by
    intro i d hi
    obtain⟨v,h1,h2⟩:=RZ i _ hi
    refine⟨v,by rw[←Array.getElem?_toList];exact h1,h2,?_⟩
    show mW _ _ _ _=_
    unfold mW
    rw[if_neg (by omega),show P.globals.size+i-P.globals.size=i by omega,hi,h1]
   have hrel:dD ρ ⟨rq as P.globals.size⟩ args':=by
    refine dD.ana (fun i v hv=>?_) (by simp[adb,ayv])
    rw[Oz]at hv
    obtain⟨a,ha,rfl⟩:=Option.map_eq_some_iff.1 hv
    cases a with
    |n K k=>
     obtain⟨x,h1,h2,h3⟩:=hnum i K k ha
     refine⟨_,h1,?_⟩
     obtain⟨p,q,r,rfl,t1,t2,t3⟩:=hN.shape h2
     refine aJ.ou (jU.tH (l:=[_,_,_,_]) (l':=[_,_,_,_]) ⟨.bool _,.tok _ 1 _ _ h3 rfl t1,.tok _ 2 _ _ h3 rfl t2,.tok _ 3 _ _ h3 rfl t3,trivial⟩)
    |q K D k=>
     obtain⟨x,h1,h2,h3⟩:=ajn i K D k ha
     refine⟨_,h1,?_⟩
     obtain⟨p,q,r,rfl,t1,t2,t3⟩:=hN.KJ h2
     refine aJ.ou (jU.tH (l:=[_,_,_,_]) (l':=[_,_,_,_]) ⟨.bool _,.tok _ 1 _ _ h3 rfl t1,.tok _ 2 _ _ h3 rfl t2,.tok _ 3 _ _ h3 rfl t3,trivial⟩)
    |r K D=>
     obtain⟨x,h1,h2,h3⟩:=ajo i K D ha
     refine⟨_,h1,?_⟩
     obtain⟨p,q,r,rfl,t1,t2,t3⟩:=hN.RQ h2
     refine aJ.ou (jU.tH (l:=[_,_,_]) (l':=[_,_,_]) ⟨.tok _ 0 _ _ h3 rfl t1,.tok _ 1 _ _ h3 rfl t2,.tok _ 2 _ _ h3 rfl t3,trivial⟩)
    |s d=>
     obtain⟨x,h1,h2,h3⟩:=ajp i d ha
     refine⟨_,h1,?_⟩
     obtain⟨b,hb⟩:=hN.RS h2
     have hb:x=.string b:=by simpa using hb
     subst hb
     exact .tok _ 0 _ _ h3 rfl rfl
    |v x=>
     obtain⟨v,h1,rfl⟩:=RZ i _ ha
     exact⟨_,by rw[←Array.getElem?_toList];exact h1,jQ 9 _ (hgr _ (List.mem_of_getElem? ha)) ρ⟩
   have hat: ∀b,b<(RY P T as an).n→At ρ w b ((RY P T as an).t.get b):=by
    intro b hb
    show At ρ w b ((ja as P.globals.size (Df T)).get b)
    rw[gU _ _ _ _ (by omega)]
    have old:b<P.globals.size∨True→(b<P.globals.size→At ρ w b ((Df T).get b)):=by
     intro _ hlt
     unfold Df
     rcases yH T.ro (Tree.set 40 .leaf T.g (.fact 0)) b (fun p hp=>by have:=(hro p hp).1;omega)with h1|⟨p,h1,h2,h3⟩
     ·rw[h1,Tree.dO 40 _ _ _ _ (by omega)]
      by_cases e:b=T.g
      ·rw[if_pos e]
       obtain⟨o,k1,k2⟩:=henv.1
       exact .fact 0 b o (hρ b hlt) (by rw[e];exact k1) k2
      ·rw[if_neg e,Tree.zy];exact .none
     ·rw[h3]
      obtain⟨c',e,f,k1,k2⟩:=henv.2 p h1
      subst h2
      refine .ro p.2 e f p.1 c' (hρ _ hlt) k1 fun i v hv=>⟨v,k2 i v hv,?_⟩
      have k3:=(hro p h1).2.1
      rw[List.all_eq_true]at k3
      exact jQ 3 v (k3 v (List.mem_of_getElem? hv)) _
    by_cases hlt:b<P.globals.size
    ·rw[if_neg (by omega)];exact old (.inl hlt) hlt
    ·rw[if_pos (by omega)]
     have hnone:(Df T).get b=none:=by
      unfold Df
      rcases yH T.ro (Tree.set 40 .leaf T.g (.fact 0)) b (fun p hp=>by have:=(hro p hp).1;omega)with h1|⟨p,h1,h2,h3⟩
      ·rw[h1,Tree.dO 40 _ _ _ _ (by omega),if_neg (by omega),Tree.zy]
      ·have:=(hro p h1).1;omega
     split
     ·rename_i K k ha
      obtain⟨x,h1,h2,h3⟩:=hnum _ K k ha
      rw[show P.globals.size+(b-P.globals.size)=b by omega]at h3
      exact .ghost 0 _ x hN.gm h3 h2
     ·rename_i K D k ha
      obtain⟨x,h1,h2,h3⟩:=ajn _ K D k ha
      rw[show P.globals.size+(b-P.globals.size)=b by omega]at h3
      exact .ghost 1 _ x hN.gm h3 h2
     ·rename_i K D ha
      obtain⟨x,h1,h2,h3⟩:=ajo _ K D ha
      rw[show P.globals.size+(b-P.globals.size)=b by omega]at h3
      exact .ghost 2 _ x hN.gm h3 h2
     ·rename_i d ha
      obtain⟨x,h1,h2,h3⟩:=ajp _ d ha
      rw[show P.globals.size+(b-P.globals.size)=b by omega]at h3
      exact .ghost 3 _ _ hN.gm h3 h2
     ·rw[hnone];exact .none
   refine(ac5 hP hm hcall hrun hcs (ρ:=ρ) (w:=w) (fun F hok=>⟨fun b hb _=>hat b hb,fun b c x h1 h2=>?_,fun b x h1=>?_,hok⟩) (fun b hb _=>?_) (fun g hg=>hρ g hg) hrel).mono ?_
   ·have k1:=yI h1
    have k2:=yI h2
    omega
   ·have k1:=yI h1
    omega
   ·have hb:P.globals.size+as.length≤b:=hb
    show mW _ _ _ b=_
    unfold mW
    rw[if_neg (by omega),List.getElem?_eq_none (by omega)]
   ·rintro e w1 ⟨ρ1,v',rfl,hvr,hinv,e1⟩
    refine⟨v',rfl,?_,e1.os,e1.tape,e1.output,e1.size,fun c hc=>e1.heap c hc fun b hb hwb ht=>?_⟩
    ·unfold Fits at hfit
     unfold jA
     split at hfit
     ·rename_i hg0
      obtain⟨rfl,hg1⟩:=hfit
      rw[hg0]
      exact ground_eq 9 _ hg1 ρ1 v' hvr
     ·rename_i gd hg0
      obtain⟨rfl,ht,ho⟩:=hfit
      rw[hg0]
      have hA:=(hinv ⟨0,True⟩ trivial)
      have hA2:=(hinv ⟨2^n,True⟩ trivial).at_ n (by omega) (by simp[Fp.testBit])
      rw[ho]at hA2
      cases hA2 with
      |ghost _ _ x _ k1 k2=>exact⟨x,k2,fun ρ' n' hn'=>ade k1 hn' 4 _ ht v' hvr⟩
    ·have h1:=yI ht
     have h2:=Nat.testBit_mod_two_pow s1.w P.globals.size b
     rw[hlow]at h2
     simp[h1.1]at h2
     rw[h2]at hwb;cases hwb
  ·cases h
 ·cases h
end Go.Canon
