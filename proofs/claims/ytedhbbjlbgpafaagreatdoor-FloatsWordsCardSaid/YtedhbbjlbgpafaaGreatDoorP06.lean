/-
  A contract out of a run with unknown numbers.
-/
import Derived.Test.YtedhbbjlbgpafaaGreatDoorP05
set_option linter.unusedVariables false
set_option linter.unusedSimpArgs false
set_option linter.unusedSectionVars false
namespace Go.Canon
open Go.RowKit
variable [Ghosts]
def startT(T:Tabs):Tree CObj:=roTree T.ro (Tree.set 40 .leaf T.g (.fact 0))
def fillAr:List Ar→Nat→Tree CObj→Tree CObj
 |[],_,t=>t
 |.n K k::as,i,t=>fillAr as (i+1) (t.set 40 i (.ghost 0 [K,k]))
 |.q K D k::as,i,t=>fillAr as (i+1) (t.set 40 i (.ghost 1 [K,D,k]))
 |.r K D::as,i,t=>fillAr as (i+1) (t.set 40 i (.ghost 2 [K,D]))
 |.s d::as,i,t=>fillAr as (i+1) (t.set 40 i (.ghost 3 d))
 |.v _::as,i,t=>fillAr as (i+1) t
def cargs:List Ar→Nat→List Value
 |[],_=>[]
 |.n K _::as,i=>numV i K::cargs as (i+1)
 |.q K _ _::as,i=>numV i K::cargs as (i+1)
 |.r _ _::as,i=>numR i::cargs as (i+1)
 |.s _::as,i=>.complex .f64 i 0::cargs as (i+1)
 |.v x::as,i=>x::cargs as (i+1)
def startS(P:Program)(T:Tabs)(as:List Ar)(an:List Bool):St:={t:=fillAr as P.globals.size (startT T),n:=P.globals.size+as.length,r:=0,w:=0,an:=an,cs:=[]}
theorem fillAr_get: ∀(as:List Ar) (i:Nat) (t:Tree CObj) (b:Nat),i+as.length<2^39→(fillAr as i t).get b=if i≤b then(match as[b-i]? with|some (.n K k)=>some (.ghost 0 [K,k])|some (.q K D k)=>some (.ghost 1 [K,D,k])|some (.r K D)=>some (.ghost 2 [K,D])|some (.s d)=>some (.ghost 3 d)|_=>t.get b)else t.get b
 |[],i,t,b,_=>by simp[fillAr]
 |a::as,i,t,b,h=>by
  simp only[List.length_cons]at h
  by_cases h1:i≤b
  ·rw[if_pos h1]
   by_cases h2:b=i
   ·subst h2
    cases a with
    |n K k=>
     rw[fillAr,fillAr_get as _ _ _ (by omega),if_neg (by omega),Tree.get_set 40 _ _ _ _ (by omega),if_pos rfl]
     simp
    |q K D k=>
     rw[fillAr,fillAr_get as _ _ _ (by omega),if_neg (by omega),Tree.get_set 40 _ _ _ _ (by omega),if_pos rfl]
     simp
    |r K D=>
     rw[fillAr,fillAr_get as _ _ _ (by omega),if_neg (by omega),Tree.get_set 40 _ _ _ _ (by omega),if_pos rfl]
     simp
    |s d=>
     rw[fillAr,fillAr_get as _ _ _ (by omega),if_neg (by omega),Tree.get_set 40 _ _ _ _ (by omega),if_pos rfl]
     simp
    |v x=>
     rw[fillAr,fillAr_get as _ _ _ (by omega),if_neg (by omega)]
     simp
   ·have e:b-i=(b-(i+1))+1:=by omega
    rw[e,List.getElem?_cons_succ]
    cases a with
    |n K k=>rw[fillAr,fillAr_get as _ _ _ (by omega),if_pos (by omega),Tree.get_set 40 _ _ _ _ (by omega),if_neg h2]
    |q K D k=>rw[fillAr,fillAr_get as _ _ _ (by omega),if_pos (by omega),Tree.get_set 40 _ _ _ _ (by omega),if_neg h2]
    |r K D=>rw[fillAr,fillAr_get as _ _ _ (by omega),if_pos (by omega),Tree.get_set 40 _ _ _ _ (by omega),if_neg h2]
    |s d=>rw[fillAr,fillAr_get as _ _ _ (by omega),if_pos (by omega),Tree.get_set 40 _ _ _ _ (by omega),if_neg h2]
    |v x=>rw[fillAr,fillAr_get as _ _ _ (by omega),if_pos (by omega)]
  ·rw[if_neg h1]
   cases a with
   |n K k=>rw[fillAr,fillAr_get as _ _ _ (by omega),if_neg (by omega),Tree.get_set 40 _ _ _ _ (by omega),if_neg (by omega)]
   |q K D k=>rw[fillAr,fillAr_get as _ _ _ (by omega),if_neg (by omega),Tree.get_set 40 _ _ _ _ (by omega),if_neg (by omega)]
   |r K D=>rw[fillAr,fillAr_get as _ _ _ (by omega),if_neg (by omega),Tree.get_set 40 _ _ _ _ (by omega),if_neg (by omega)]
   |s d=>rw[fillAr,fillAr_get as _ _ _ (by omega),if_neg (by omega),Tree.get_set 40 _ _ _ _ (by omega),if_neg (by omega)]
   |v x=>rw[fillAr,fillAr_get as _ _ _ (by omega),if_neg (by omega)]
def startM(N:Nat)(as:List Ar)(vs:List Value):Map:=fun b=>if b<N then .hard b else match as[b-N]?,vs[b-N]? with
 |some (.n _ _),some (.agg x)=>.num x
 |some (.q _ _ _),some (.agg x)=>.num x
 |some (.r _ _),some (.agg x)=>.num x
 |some (.s _),some x=>.num #[x]
 |_,_=>.none
theorem startM_tgt{N:Nat}{as:List Ar}{vs:List Value}{b x:Nat}(h:(startM N as vs b).tgt=some x):b<N∧x=b:=by
 unfold startM at h
 split at h
 ·rename_i hb;injection h with h;exact⟨hb,h.symm⟩
 ·split at h<;>cases h
theorem AreArs.get{w:World}: ∀{as:List Ar} {vs:List Value},AreArs w as vs→as.length=vs.length∧ ∀(i:Nat) (a:Ar),as[i]?=some a→ ∃v,vs[i]?=some v∧IsAr w a v
 |[],[],_=>⟨rfl,fun i a h=>by simp at h⟩
 |a::as,v::vs,h=>by
  obtain⟨k1,k2⟩:=AreArs.get h.2
  refine⟨by simp[k1],fun i b hb=>?_⟩
  cases i with
  |zero=>simp only[List.getElem?_cons_zero,Option.some.injEq]at hb;subst hb;exact⟨v,rfl,h.1⟩
  |succ i=>simpa using k2 i b (by simpa using hb)
 |[],_::_,h=>h.elim
 |_::_,[],h=>h.elim
theorem cargs_get: ∀(as:List Ar) (i j:Nat),(cargs as i)[j]?=(as[j]?).map fun a=>match a with|.n K _=>numV (i+j) K|.q K _ _=>numV (i+j) K|.r _ _=>numR (i+j)|.s _=>.complex .f64 (i+j) 0|.v x=>x
 |[],i,j=>by simp[cargs]
 |a::as,i,j=>by
  cases j with
  |zero=>cases a<;>simp[cargs]
  |succ j=>
   have:=cargs_get as (i+1) j
   rw[show i+1+j=i+(j+1)by omega]at this
   cases a<;>simpa [cargs]using this
theorem cargs_len(as:List Ar)(i:Nat):(cargs as i).length=as.length:=by
 induction as generalizing i with
 |nil=>rfl
 |cons a as ih=>cases a<;>simp[cargs,ih]
def tplB:Nat→Value→Bool
 |d+1,v=>match v with
  |.complex .f64 _ _=>true
  |.agg x=>x.toList.all (tplB d)
  |.tuple x=>x.toList.all (tplB d)
  |v=>ground 9 v
 |0,v=>ground 9 v
theorem subst_rel{ρ ρ':Map}{n n':Nat}{x:Array Value}(h1:ρ n=.num x)(h2:ρ' n'=.num x): ∀(d:Nat) (t:Value),tplB d t=true→ ∀v',VRel ρ (subst n d t) v'→VRel ρ' (subst n' d t) v':=by
 have gr: ∀(v v':Value),ground 9 v=true→VRel ρ v v'→VRel ρ' v v':=fun v v' hg hv=>by
  rw[ground_eq 9 v hg ρ v' hv];exact ground_rel 9 v hg ρ'
 intro d
 induction d with
 |zero=>intro t ht v' hv;exact gr _ _ ht hv
 |succ d ih=>
  have arr: ∀(y z:Array Value),y.toList.all (tplB d)=true→(⟨y.toList.map (subst n d)⟩:Array Value).size=z.size→(∀(i:Nat) (h:i<(⟨y.toList.map (subst n d)⟩:Array Value).size) (h':i<z.size),VRel ρ (⟨y.toList.map (subst n d)⟩:Array Value)[i] z[i])→
   (⟨y.toList.map (subst n' d)⟩:Array Value).size=z.size∧ ∀(i:Nat) (h:i<(⟨y.toList.map (subst n' d)⟩:Array Value).size) (h':i<z.size),VRel ρ' (⟨y.toList.map (subst n' d)⟩:Array Value)[i] z[i]:=by
   intro y z hy hs hi
   rw[List.all_eq_true]at hy
   refine⟨by simpa using hs,fun i k1 k2=>?_⟩
   have k3:i<y.size:=by simpa using k1
   have:=hi i (by simpa using k3) k2
   simp only[List.getElem_toArray,List.getElem_map]at this⊢
   exact ih _ (hy _ (List.getElem_mem _)) _ this
  intro t ht v' hv
  unfold tplB at ht
  split at ht
  ·rename_i j k
   simp only[subst]at hv⊢
   cases hv with
   |tok _ _ y _ e1 e2 e3=>rw[h1]at e1;injection e1 with e1;subst e1;exact .tok _ _ _ _ h2 e2 e3
  ·rename_i y
   simp only[subst]at hv⊢
   cases hv with
   |agg _ z e1 e2=>obtain⟨k1,k2⟩:=arr y z ht e1 e2;exact .agg _ _ k1 k2
  ·rename_i y
   simp only[subst]at hv⊢
   cases hv with
   |tuple _ z e1 e2=>obtain⟨k1,k2⟩:=arr y z ht e1 e2;exact .tuple _ _ k1 k2
  ·rename_i q1 q2 q3
   have e: ∀m,subst m (d+1) t=t:=by
    intro m
    unfold subst
    split
    ·rename_i k a b
     cases k with
     |f64=>exact absurd rfl (q1 a b)
     |f32=>simp[ground]at ht
    ·exact absurd rfl (q2 _)
    ·exact absurd rfl (q3 _)
    ·rfl
   rw[e]at hv⊢
   exact gr _ _ ht hv
def conRun(P:Program)(T:Tabs)(call:CF→St→Option (Value×St))(fuel g:Nat)(as:List Ar)(an:List Bool)(n:Nat):Option (Value×Option CObj×List (Bool×Bool)):=
 match callO P call fuel g ⟨cargs as P.globals.size⟩ (startS P T as an)with
 |some (v,s)=>match Nat.beq (s.w%2^P.globals.size) 0&&Nat.ble (n+1) s.n with
  |true=>some (v,s.t.get n,s.cs)
  |false=>none
 |none=>none
def Fits(R:Res)(n:Nat)(v:Value)(o:Option CObj):Prop:=
 match R.g with
 |none=>v=R.t∧ground 9 R.t=true
 |some g=>v=subst n 4 R.t∧tplB 4 R.t=true∧o=some (.ghost g.tag g.data)
theorem con_of_run(hN:NumG){P:Program}(hP:NG P)(hm:P.follows .mixedOrders=true){T:Tabs}(hT:T.g<P.globals.size)(hro: ∀p∈T.ro,p.1<P.globals.size∧p.2.all (ground 3)=true∧p.1≠T.g)(h39:P.globals.size<2^38)
 {call:CF→St→Option (Value×St)} (hcall:RunOkE P call) {fuel g:Nat} {as:List Ar} (hlen:as.length<2^38) (hgr: ∀x,Ar.v x∈as→ground 9 x=true) {an:List Bool} {n:Nat} {v:Value} {o:Option CObj} {cs:List (Bool×Bool)}
 (h:conRun P T call fuel g as an n=some (v,o,cs)) (hcs: ∀c∈cs,c.1=c.2) {R:Res} (hfit:Fits R n v o):Con P T g as R:=by
 unfold conRun at h
 split at h
 ·rename_i v0 s1 hrun
  split at h
  ·rename_i hchk
   injection h with h;injection h with e1 h;injection h with e2 e3
   subst e1 e2 e3
   rw[Bool.and_eq_true,Nat.ble_eq]at hchk
   have hlow:=Nat.eq_of_beq_eq_true hchk.1
   intro w hw henv args' hars
   obtain⟨alen,aget⟩:=hars.get
   let ρ:=startM P.globals.size as args'.toList
   have hρ: ∀b,b<P.globals.size→ρ b=.hard b:=fun b hb=>by show startM _ _ _ b=_;unfold startM;rw[if_pos hb]
   have hnum: ∀(i:Nat) (K k:Int),as[i]?=some (.n K k)→ ∃x,args'[i]?=some (.agg x)∧Ghosts.is w 0 [K,k] x∧ρ (P.globals.size+i)=.num x:=by
    intro i K k hi
    obtain⟨v,h1,x,rfl,h2⟩:=aget i _ hi
    refine⟨x,by rw[←Array.getElem?_toList];exact h1,h2,?_⟩
    show startM _ _ _ _=_
    unfold startM
    rw[if_neg (by omega),show P.globals.size+i-P.globals.size=i by omega,hi,h1]
   have hnumQ: ∀(i:Nat) (K D k:Int),as[i]?=some (.q K D k)→ ∃x,args'[i]?=some (.agg x)∧Ghosts.is w 1 [K,D,k] x∧ρ (P.globals.size+i)=.num x:=by
    intro i K D k hi
    obtain⟨v,h1,x,rfl,h2⟩:=aget i _ hi
    refine⟨x,by rw[←Array.getElem?_toList];exact h1,h2,?_⟩
    show startM _ _ _ _=_
    unfold startM
    rw[if_neg (by omega),show P.globals.size+i-P.globals.size=i by omega,hi,h1]
   have hnumR: ∀(i:Nat) (K D:Int),as[i]?=some (.r K D)→ ∃x,args'[i]?=some (.agg x)∧Ghosts.is w 2 [K,D] x∧ρ (P.globals.size+i)=.num x:=by
    intro i K D hi
    obtain⟨v,h1,x,rfl,h2⟩:=aget i _ hi
    refine⟨x,by rw[←Array.getElem?_toList];exact h1,h2,?_⟩
    show startM _ _ _ _=_
    unfold startM
    rw[if_neg (by omega),show P.globals.size+i-P.globals.size=i by omega,hi,h1]
   have hnumS: ∀(i:Nat) (d:List Int),as[i]?=some (.s d)→ ∃v,args'[i]?=some v∧Ghosts.is w 3 d #[v]∧ρ (P.globals.size+i)=.num #[v]:=by
    intro i d hi
    obtain⟨v,h1,h2⟩:=aget i _ hi
    refine⟨v,by rw[←Array.getElem?_toList];exact h1,h2,?_⟩
    show startM _ _ _ _=_
    unfold startM
    rw[if_neg (by omega),show P.globals.size+i-P.globals.size=i by omega,hi,h1]
   have hrel:ARel ρ ⟨cargs as P.globals.size⟩ args':=by
    refine ARel.of_prel (fun i v hv=>?_) (by simp[cargs_len,alen])
    rw[cargs_get]at hv
    obtain⟨a,ha,rfl⟩:=Option.map_eq_some_iff.1 hv
    cases a with
    |n K k=>
     obtain⟨x,h1,h2,h3⟩:=hnum i K k ha
     refine⟨_,h1,?_⟩
     obtain⟨p,q,r,rfl,t1,t2,t3⟩:=hN.shape h2
     refine VRel.agg_of (LRel.arel (l:=[_,_,_,_]) (l':=[_,_,_,_]) ⟨.bool _,.tok _ 1 _ _ h3 rfl t1,.tok _ 2 _ _ h3 rfl t2,.tok _ 3 _ _ h3 rfl t3,trivial⟩)
    |q K D k=>
     obtain⟨x,h1,h2,h3⟩:=hnumQ i K D k ha
     refine⟨_,h1,?_⟩
     obtain⟨p,q,r,rfl,t1,t2,t3⟩:=hN.shapeQ h2
     refine VRel.agg_of (LRel.arel (l:=[_,_,_,_]) (l':=[_,_,_,_]) ⟨.bool _,.tok _ 1 _ _ h3 rfl t1,.tok _ 2 _ _ h3 rfl t2,.tok _ 3 _ _ h3 rfl t3,trivial⟩)
    |r K D=>
     obtain⟨x,h1,h2,h3⟩:=hnumR i K D ha
     refine⟨_,h1,?_⟩
     obtain⟨p,q,r,rfl,t1,t2,t3⟩:=hN.shapeR h2
     refine VRel.agg_of (LRel.arel (l:=[_,_,_]) (l':=[_,_,_]) ⟨.tok _ 0 _ _ h3 rfl t1,.tok _ 1 _ _ h3 rfl t2,.tok _ 2 _ _ h3 rfl t3,trivial⟩)
    |s d=>
     obtain⟨x,h1,h2,h3⟩:=hnumS i d ha
     refine⟨_,h1,?_⟩
     obtain⟨b,hb⟩:=hN.shapeS h2
     have hb:x=.string b:=by simpa using hb
     subst hb
     exact .tok _ 0 _ _ h3 rfl rfl
    |v x=>
     obtain⟨v,h1,rfl⟩:=aget i _ ha
     exact⟨_,by rw[←Array.getElem?_toList];exact h1,ground_rel 9 _ (hgr _ (List.mem_of_getElem? ha)) ρ⟩
   have hat: ∀b,b<(startS P T as an).n→At ρ w b ((startS P T as an).t.get b):=by
    intro b hb
    show At ρ w b ((fillAr as P.globals.size (startT T)).get b)
    rw[fillAr_get _ _ _ _ (by omega)]
    have old:b<P.globals.size∨True→(b<P.globals.size→At ρ w b ((startT T).get b)):=by
     intro _ hlt
     unfold startT
     rcases roTree_get T.ro (Tree.set 40 .leaf T.g (.fact 0)) b (fun p hp=>by have:=(hro p hp).1;omega)with h1|⟨p,h1,h2,h3⟩
     ·rw[h1,Tree.get_set 40 _ _ _ _ (by omega)]
      by_cases e:b=T.g
      ·rw[if_pos e]
       obtain⟨o,k1,k2⟩:=henv.1
       exact .fact 0 b o (hρ b hlt) (by rw[e];exact k1) k2
      ·rw[if_neg e,Tree.get_leaf];exact .none
     ·rw[h3]
      obtain⟨c',e,f,k1,k2⟩:=henv.2 p h1
      subst h2
      refine .ro p.2 e f p.1 c' (hρ _ hlt) k1 fun i v hv=>⟨v,k2 i v hv,?_⟩
      have k3:=(hro p h1).2.1
      rw[List.all_eq_true]at k3
      exact ground_rel 3 v (k3 v (List.mem_of_getElem? hv)) _
    by_cases hlt:b<P.globals.size
    ·rw[if_neg (by omega)];exact old (.inl hlt) hlt
    ·rw[if_pos (by omega)]
     have hnone:(startT T).get b=none:=by
      unfold startT
      rcases roTree_get T.ro (Tree.set 40 .leaf T.g (.fact 0)) b (fun p hp=>by have:=(hro p hp).1;omega)with h1|⟨p,h1,h2,h3⟩
      ·rw[h1,Tree.get_set 40 _ _ _ _ (by omega),if_neg (by omega),Tree.get_leaf]
      ·have:=(hro p h1).1;omega
     split
     ·rename_i K k ha
      obtain⟨x,h1,h2,h3⟩:=hnum _ K k ha
      rw[show P.globals.size+(b-P.globals.size)=b by omega]at h3
      exact .ghost 0 _ x hN.gm h3 h2
     ·rename_i K D k ha
      obtain⟨x,h1,h2,h3⟩:=hnumQ _ K D k ha
      rw[show P.globals.size+(b-P.globals.size)=b by omega]at h3
      exact .ghost 1 _ x hN.gm h3 h2
     ·rename_i K D ha
      obtain⟨x,h1,h2,h3⟩:=hnumR _ K D ha
      rw[show P.globals.size+(b-P.globals.size)=b by omega]at h3
      exact .ghost 2 _ x hN.gm h3 h2
     ·rename_i d ha
      obtain⟨x,h1,h2,h3⟩:=hnumS _ d ha
      rw[show P.globals.size+(b-P.globals.size)=b by omega]at h3
      exact .ghost 3 _ _ hN.gm h3 h2
     ·rw[hnone];exact .none
   refine(callsO_of hP hm hcall hrun hcs (ρ:=ρ) (w:=w) (fun F hok=>⟨fun b hb _=>hat b hb,fun b c x h1 h2=>?_,fun b x h1=>?_,hok⟩) (fun b hb _=>?_) (fun g hg=>hρ g hg) hrel).mono ?_
   ·have k1:=startM_tgt h1
    have k2:=startM_tgt h2
    omega
   ·have k1:=startM_tgt h1
    omega
   ·have hb:P.globals.size+as.length≤b:=hb
    show startM _ _ _ b=_
    unfold startM
    rw[if_neg (by omega),List.getElem?_eq_none (by omega)]
   ·rintro e w1 ⟨ρ1,v',rfl,hvr,hinv,e1⟩
    refine⟨v',rfl,?_,e1.os,e1.tape,e1.output,e1.size,fun c hc=>e1.heap c hc fun b hb hwb ht=>?_⟩
    ·unfold Fits at hfit
     unfold ResIs
     split at hfit
     ·rename_i hg0
      obtain⟨rfl,hg1⟩:=hfit
      rw[hg0]
      exact ground_eq 9 _ hg1 ρ1 v' hvr
     ·rename_i gd hg0
      obtain⟨rfl,ht,ho⟩:=hfit
      rw[hg0]
      have hA:=(hinv ⟨0,True⟩ trivial)
      have hA2:=(hinv ⟨2^n,True⟩ trivial).at_ n (by omega) (by simp[Fp.testBit])
      rw[ho]at hA2
      cases hA2 with
      |ghost _ _ x _ k1 k2=>exact⟨x,k2,fun ρ' n' hn'=>subst_rel k1 hn' 4 _ ht v' hvr⟩
    ·have h1:=startM_tgt ht
     have h2:=Nat.testBit_mod_two_pow s1.w P.globals.size b
     rw[hlow]at h2
     simp[h1.1]at h2
     rw[h2]at hwb;cases hwb
  ·cases h
 ·cases h
end Go.Canon
