/-
  A frame done canonically whose calls are answered by whatever is sound: proved contracts, or the run itself.
-/
import Derived.Test.YtedhbbjlbgpafaaGreatDoorP04
set_option linter.unusedVariables false
set_option linter.unusedSimpArgs false
set_option linter.unusedSectionVars false
namespace Go.Canon
variable [Ghosts]
def runO(P:Program)(call:CF→St→Option (Value×St)):Nat→CF→St→Option (Value×St)
 |0,_,_=>none
 |f+1,fr,s=>
  match fr.todo with
  |[]=>leaveC P fr none s
  |.code .ret::_=>leaveC P fr (some .ret) s
  |.code .skip::k=>runO P call f {fr with todo:=k} s
  |.code (.label _)::k=>runO P call f {fr with todo:=k} s
  |.code (.seq x y)::k=>runO P call f {fr with todo:=.code x::.code y::k} s
  |.code (.cond c x y)::k=>if okOper P c then match evT fr.tm c with
   |.bool t=>runO P call f {fr with todo:=.code (if t then x else y)::k} s
   |_=>none
   else none
  |.code (.block id c)::k=>runO P call f {fr with todo:=.code c::.inBlock id::k} s
  |.code (.loop c)::k=>runO P call f {fr with todo:=.code c::.inLoop c::k} s
  |.code (.scope c)::k=>runO P call f {fr with todo:=.code c::.inScope c::k} s
  |.code (.exit id)::k=>match exitTo id k with
   |some k'=>runO P call f {fr with todo:=k'} s
   |none=>leaveC P fr (some (.exit id)) s
  |.code (.goto t)::k=>match gotoIn t k with
   |some k'=>runO P call f {fr with todo:=k'} s
   |none=>leaveC P fr (some (.goto t)) s
  |.code (.region _ ops false)::k=>match doOps P call ops fr.sz ops.toList fr.tm s with
   |some (tm,s1)=>runO P call f {fr with tm:=tm,todo:=k} s1
   |none=>none
  |.code (.region _ ops true)::k=>if okRegion ops then match doOpsD P call ops fr.sz ops.toList fr.tm s with
   |some (l,tm,s1)=>if confAll (bef ops) [] l then runO P call f {fr with tm:=tm,todo:=k} s1 else none
   |none=>none
   else none
  |.code (.rangeFunc g ps as bo)::k=>if okOper P g then match enterLoopC s fr.fn fr.tm fr.sz ps as bo fr.ro with
   |some (l,mark,s1)=>match evT fr.tm g with
    |.func (.func gf) first cap=>match enterC P gf (first++ #[.func (.yield l) #[] #[]]++cap)with
     |some gr=>match call gr s1 with
      |some (_,s2)=>match endLoopC s2 l with
       |some (jump,s3)=>runO P call f {fr with defers:=mark++fr.defers,todo:=(jump.map Item.code).toList++k} s3
       |none=>none
      |none=>none
     |none=>none
    |_=>none
   |none=>none
   else none
  |.inBlock _::k=>runO P call f {fr with todo:=k} s
  |.inScope _::k=>runO P call f {fr with todo:=k} s
  |.inLoop c::k=>runO P call f {fr with todo:=.code c::.inLoop c::k} s
  |.beginRound::k=>match fr.ro with
   |some l=>match beginRoundC s l with
    |some s1=>runO P call f {fr with todo:=k} s1
    |none=>none
   |none=>none
  |_=>none
theorem runO_ok{P:Program}(hP:NG P)(hm:P.follows .mixedOrders=true){call:CF→St→Option (Value×St)}(hcall:RunOkE P call): ∀f,RunOk P (runO P call f):=by
 intro f
 induction f with
 |zero=>intro fr s v s1 h;cases h
 |succ f ih=>
  have step1: ∀{fr:CF} {s s1:St} {v:Value} (k':List Item),runO P call f {fr with todo:=k'} s=some (v,s1)→
   (∀ρ b a w,GR P ρ→FRel ρ fr b a→ ∀cs,step P (lone (b.atR a fr.todo) cs w)=.next (lone (b.atR a k') cs w))→
   Mono s s1∧ ∀F,Fp.Sub s1.fp F→ ∀ρ w b a,Fresh ρ s s1→Inv F ρ s w→GR P ρ→FRel ρ fr b a→ ∀cs,∃ρ1 w1 v',Inv F ρ1 s1 w1∧Ext s1.w ρ ρ1 s s1 w w1∧VRel ρ1 v v'∧Ends P (b.atR a fr.todo) w v' w1 cs:=by
   intro fr s s1 v k' h hs
   obtain⟨m,hm⟩:=ih _ _ _ _ h
   refine⟨m,fun F hF ρ w b a hf hi hg hfr cs=>?_⟩
   obtain⟨ρ1,w1,v',i1,e1,hv,hend⟩:=hm F hF ρ w b a hf hi hg ⟨hfr.fn,hfr.kind,hfr.ro,hfr.tm,hfr.defers⟩ cs
   exact⟨ρ1,w1,v',i1,e1,hv,hend.of_steps rfl rfl (.one (hs ρ b a w hg hfr cs))⟩
  intro fr s v s1 h
  unfold runO at h
  split at h
  ·rename_i ht
   obtain⟨m,hl⟩:=leaveC_ok P h (.inl ⟨rfl,ht⟩)
   exact⟨m,fun F hF ρ w b a hf hi _ hfr=>hl F hF ρ w b a hf hi hfr⟩
  ·rename_i k ht
   obtain⟨m,hl⟩:=leaveC_ok P h (.inr (.inl ⟨rfl,k,ht⟩))
   exact⟨m,fun F hF ρ w b a hf hi _ hfr=>hl F hF ρ w b a hf hi hfr⟩
  ·rename_i k ht;exact step1 _ h fun ρ b a w _ _ cs=>by rw[ht];exact stepR_skip
  ·rename_i l k ht;exact step1 _ h fun ρ b a w _ _ cs=>by rw[ht];exact stepR_label
  ·rename_i x y k ht;exact step1 _ h fun ρ b a w _ _ cs=>by rw[ht];exact stepR_seq
  ·rename_i c x y k ht
   split at h
   ·rename_i hok
    split at h
    ·rename_i t hc
     refine step1 _ h fun ρ b a w hg hfr cs=>?_
     rw[ht]
     have h1:=evT_rel hg (tm:=fr.tm) (a:=a) (x:=c) (fun t _=>hfr.tm.2 t) hok
     rw[hc]at h1
     exact stepR_cond h1.bool_inv
    ·cases h
   ·cases h
  ·rename_i id c k ht;exact step1 _ h fun ρ b a w _ _ cs=>by rw[ht];exact stepR_block
  ·rename_i c k ht;exact step1 _ h fun ρ b a w _ _ cs=>by rw[ht];exact stepR_loop
  ·rename_i c k ht;exact step1 _ h fun ρ b a w _ _ cs=>by rw[ht];exact stepR_scope
  ·rename_i id k ht
   split at h
   ·rename_i k' hk;exact step1 _ h fun ρ b a w _ _ cs=>by rw[ht];exact stepR_exit hk
   ·rename_i hk
    obtain⟨m,hl⟩:=leaveC_ok P h (.inr (.inr (.inl ⟨id,k,rfl,ht,hk⟩)))
    exact⟨m,fun F hF ρ w b a hf hi _ hfr=>hl F hF ρ w b a hf hi hfr⟩
  ·rename_i t k ht
   split at h
   ·rename_i k' hk;exact step1 _ h fun ρ b a w _ _ cs=>by rw[ht];exact stepR_goto hk
   ·rename_i hk
    obtain⟨m,hl⟩:=leaveC_ok P h (.inr (.inr (.inr ⟨t,k,rfl,ht,hk⟩)))
    exact⟨m,fun F hF ρ w b a hf hi _ hfr=>hl F hF ρ w b a hf hi hfr⟩
  ·rename_i id ops k ht
   split at h
   ·rename_i tm s2 hops
    obtain⟨m1,h1⟩:=doOps_ok hP hcall ops.toList 0 fr.tm tm s s2 rfl (by simp) hops
    obtain⟨m2,h2⟩:=ih _ _ _ _ h
    refine⟨m1.trans m2,fun F hF ρ w b a hf hi hg hfr cs=>?_⟩
    obtain⟨ρ1,w1,a1,i1,e1,ht1,hd1,hst⟩:=h1 F (m2.fp.trans hF) ρ w a (hf.fst m2.n) hi hg hfr.tm b k cs
    have hfr1:=hfr.mono e1.le
    obtain⟨ρ2,w2,v',i2,e2,hv,hend⟩:=h2 F hF ρ1 w1 b a1 (hf.snd e1) i1 (hg.mono e1.le) ⟨hfr1.fn,hfr1.kind,hfr1.ro,ht1,by rw[hd1];exact hfr1.defers⟩ cs
    refine⟨ρ2,w2,v',i2,(e1.wider m2.w).trans e2,hv,hend.of_steps rfl rfl ?_⟩
    rw[ht]
    have:=hst
    rw[Array.length_toList,←List.range_eq_range']at this
    exact .head stepR_region this
   ·cases h
  ·rename_i id ops k ht
   split at h
   ·rename_i hok
    split at h
    ·rename_i l tm s2 hops
     split at h
     ·rename_i hc
      obtain⟨m1,h1⟩:=doOpsD_ok hP hm hcall hops hok hc
      obtain⟨m2,h2⟩:=ih _ _ _ _ h
      refine⟨m1.trans m2,fun F hF ρ w b a hf hi hg hfr cs=>?_⟩
      obtain⟨ρ1,w1,a1,i1,e1,ht1,hd1,hst⟩:=h1 F (m2.fp.trans hF) ρ w a (hf.fst m2.n) hi hg hfr.tm id b.fn b k cs rfl
      have hfr1:=hfr.mono e1.le
      obtain⟨ρ2,w2,v',i2,e2,hv,hend⟩:=h2 F hF ρ1 w1 b a1 (hf.snd e1) i1 (hg.mono e1.le) ⟨hfr1.fn,hfr1.kind,hfr1.ro,ht1,by rw[hd1];exact hfr1.defers⟩ cs
      refine⟨ρ2,w2,v',i2,(e1.wider m2.w).trans e2,hv,hend.of_steps rfl rfl ?_⟩
      rw[ht]
      exact hst
     ·cases h
    ·cases h
   ·cases h
  ·rename_i g ps as bo k ht
   split at h
   ·rename_i hok
    split at h
    ·rename_i l mark s2 hel
     split at h
     ·rename_i gf first cap hg0
      split at h
      ·rename_i gr hgr
       split at h
       ·rename_i v2 s3 hrun
        split at h
        ·rename_i jump s4 hend
         obtain⟨m1,h1⟩:=enterLoopC_ok P hel
         obtain⟨m2,h2⟩:=hcall _ _ _ _ (entered_of hgr) hrun
         obtain⟨m3,h3⟩:=endLoopC_ok P hend
         obtain⟨m4,h4⟩:=ih _ _ _ _ h
         have hbody: ∃fn c,P.funcs[gf]?=some fn∧fn.body=some c:=by
          unfold enterC at hgr
          split at hgr
          ·rename_i fn hf
           split at hgr
           ·rename_i c hc;exact⟨fn,c,hf,hc⟩
           ·cases hgr
          ·cases hgr
         obtain⟨fn0,c0,hf0,hc0⟩:=hbody
         refine⟨((m1.trans m2).trans m3).trans m4,fun F hF ρ w b a hf hi hg hfr cs=>?_⟩
         have F3:=m4.fp.trans hF
         have F2:=m3.fp.trans F3
         have F1:=m2.fp.trans F2
         have fr0:Fresh ρ s s4:=hf.fst m4.n
         obtain⟨ρ1,w1,i1,e1,l',mark',r1,r2,r3⟩:=h1 F F1 ρ w (a.tmps,b.roundOf) ((fr0.fst m3.n).fst m2.n) hi ⟨hfr.tm,hfr.ro⟩
         have hgv:=evT_rel (hg.mono e1.le) (tm:=fr.tm) (a:=a) (x:=g) (fun t _=>(hfr.tm.mono e1.le).2 t) hok
         rw[hg0]at hgv
         obtain⟨x',y',hx,hx1,hx2⟩:=hgv.func_inv
         have hy:ARel ρ1 #[.func (.yield l) #[] #[]] #[.func (.yield l') #[] #[]]:=LRel.arel (l:=[.func (.yield l) #[] #[]]) (l':=[.func (.yield l') #[] #[]]) ⟨.yield l l' r2,trivial⟩
         obtain⟨b2,a2,hb2,hr2⟩:=enterC_ok hgr ((hx1.append hy).append hx2)
         obtain⟨ρ2,w2,u',i2,e2,_,hend2⟩:=h2 F F2 ρ1 w1 b2 a2 ((fr0.fst m3.n).snd e1) i1 (hg.mono e1.le) hr2 (b.atR {a with defers:=mark'++a.defers} (.inRangeFunc l'::k)::cs)
         have e12:=(e1.wider m2.w).trans e2
         obtain⟨ρ3,w3,i3,e3,rfl,hl3⟩:=h3 F F3 ρ2 w2 () (fr0.snd e12) i2 trivial
         have e123:=(e12.wider m3.w).trans e3
         have hfr3:=hfr.mono e123.le
         obtain⟨ρ4,w4,v',i4,e4,hv,hend4⟩:=h4 F hF ρ3 w3 b {a with defers:=mark'++a.defers} (hf.snd e123) i3 (hg.mono e123.le)
          ⟨hfr3.fn,hfr3.kind,hfr3.ro,hfr3.tm,(r3.mono (e2.le.trans e3.le)).append hfr3.defers⟩ cs
         refine⟨ρ4,w4,v',i4,(e123.wider m4.w).trans e4,hv,hend4.of_steps rfl rfl ?_⟩
         rw[ht]
         have hinv:(do let d←resolve a.eval {callee:=.value g,args:= #[.const (.func (.yield l') #[] #[])],argTypes:= #[]} 0;invoke d.target d.args:Sem Next).run P w1=.ok (.enter gf (x'++ #[.func (.yield l') #[] #[]]++y')) w1:=by
          have em:(#[Operand.const (.func (.yield l') #[] #[])]:Array Operand).map a.eval= #[.func (.yield l') #[] #[]]:=by simp[Act.eval]
          simp only[resolve,em,hx,Deferred.ofValue,invoke,Sem.run_bind,Sem.run_pure,Result.andThen_ok,run_callFunc hP hf0 (by rw[hc0];rfl)]
         have rr:(Instr.enterLoop b.fn a.tmps ps as bo b.roundOf).run P w=.ok (l',mark') w1:=by rw[hfr.fn];exact r1
         have s1':=stepR_rangeFunc (cs:=cs) (k:=k) (b:=b) (a:=a) rr hinv
         rw[hb2]at s1'
         refine(Steps.head s1' (hend2.back _ cs rfl)).trans (.one ?_)
         exact stepR_endRangeFunc (b:=b) (a:={a with defers:=mark'++a.defers}) (hl3 l' (le.hard e2.le r2))
        ·cases h
       ·cases h
      ·cases h
     ·cases h
    ·cases h
   ·cases h
  ·rename_i id k ht;exact step1 _ h fun ρ b a w _ _ cs=>by rw[ht];exact stepR_inBlock
  ·rename_i c k ht;exact step1 _ h fun ρ b a w _ _ cs=>by rw[ht];exact stepR_inScope
  ·rename_i c k ht;exact step1 _ h fun ρ b a w _ _ cs=>by rw[ht];exact stepR_inLoop
  ·rename_i k ht
   split at h
   ·rename_i l hro
    split at h
    ·rename_i s2 hb
     obtain⟨m1,h1⟩:=beginRoundC_ok P hb
     obtain⟨m2,h2⟩:=ih _ _ _ _ h
     refine⟨m1.trans m2,fun F hF ρ w b a hf hi hg hfr cs=>?_⟩
     obtain⟨ρ1,w1,i1,e1,rfl,hr⟩:=h1 F (m2.fp.trans hF) ρ w () (hf.fst m2.n) hi trivial
     obtain⟨ρ2,w2,v',i2,e2,hv,hend⟩:=h2 F hF ρ1 w1 b a (hf.snd e1) i1 hg ⟨hfr.fn,hfr.kind,hfr.ro,hfr.tm,hfr.defers⟩ cs
     refine⟨ρ2,w2,v',i2,(e1.wider m2.w).trans e2,hv,hend.of_steps rfl rfl ?_⟩
     rw[ht]
     rcases hfr.ro with⟨h3,_⟩|⟨l2,l',h3,h4,h5⟩
     ·rw[hro]at h3;cases h3
     ·rw[hro]at h3
      injection h3 with h3
      subst h3
      exact .one (stepR_beginRound h4 (hr l' h5))
    ·cases h
   ·cases h
  ·cases h
end Go.Canon
namespace Go.Canon
open Go.RowKit
variable [Ghosts]
def callO(P:Program)(call:CF→St→Option (Value×St))(fuel:Nat)(f:FuncId)(args:Array Value)(s:St):Option (Value×St):=
 match enterC P f args with
 |some fr=>runO P call fuel fr s
 |none=>none
theorem callsO_of{P:Program}(hP:NG P)(hm:P.follows .mixedOrders=true){call:CF→St→Option (Value×St)}(hcall:RunOkE P call){fuel f:Nat}{args args':Array Value}{s s1:St}{v:Value}(h:callO P call fuel f args s=some (v,s1))(hgood:s1.good)
 {ρ:Map} {w:World} (hi:InvA ρ s w) (hfresh:Fresh ρ s s1) (hgr:GR P ρ) (ha:ARel ρ args args'):
 Calls P f args' w fun e w1=> ∃ρ1 v',e=.returned v'∧VRel ρ1 v v'∧InvA ρ1 s1 w1∧Ext s1.w ρ ρ1 s s1 w w1:=by
 unfold callO at h
 split at h
 ·rename_i fr hfr
  obtain⟨m,hrun⟩:=runO_ok hP hm hcall fuel fr s _ s1 h
  obtain⟨b,a,he,hrel⟩:=enterC_ok hfr ha
  have hro:fr.ro=none∧fr.fn=f:=by
   unfold enterC at hfr
   split at hfr
   ·split at hfr
    ·split at hfr
     ·injection hfr with hfr;subst hfr;exact⟨rfl,rfl⟩
     ·cases hfr
    ·cases hfr
   ·cases hfr
  have hb0:b.roundOf=none:=by
   rcases hrel.ro with⟨_,h3⟩|⟨l2,l',h3,_⟩
   ·exact h3
   ·rw[hro.1]at h3;cases h3
  intro cs
  obtain⟨ρ1,w1,v',i1,e1,hv,hend⟩:=hrun ⟨(2^s1.n-1)|||(s1.r|||s1.w),True⟩ ⟨fun i hi=>Sub.orr _ _ i hi,fun _=>hgood⟩ ρ w b a hfresh (hi _ trivial) hgr hrel cs
  obtain⟨fr1,k1,k2,k3⟩:=hend.leave hb0
  refine⟨.returned v',w1,fr1,⟨ρ1,v',rfl,hv,fun F hok=>⟨fun c hc _=>i1.at_ c hc (cover _ _ c hc),i1.inj,i1.lt,hok⟩,e1⟩,?_,?_,k3⟩
  ·rw[he];exact k1
  ·exact k2.trans (hrel.fn.trans hro.2)
 ·cases h
theorem entered_frame{P:Program}{g:FuncId}{args:Array Value}{fr:CF}(h:enterC P g args=some fr){ρ:Map}{b:Frame}{a:Act}(hrel:FRel ρ fr b a):
 ∃args',ARel ρ args args'∧b.atR a fr.todo=Frame.enter P g args' .normal:=by
 unfold enterC at h
 split at h
 ·rename_i fn hf
  split at h
  ·rename_i c hb
   split at h
   ·rename_i hs
    injection h with h
    subst h
    have hsz:=hrel.tm.1
    simp only at hsz
    have hget: ∀t,VRel ρ (((fillL .leaf 0 args.toList).get t).getD undef) (a.tmps.getD t undef):=hrel.tm.2
    have hval: ∀t,(fillL .leaf 0 args.toList).get t=if t<args.size then args[t]? else none:=by
     intro t
     rw[fillL_get _ _ _ _ (by simp only[Array.length_toList];omega)]
     simp only[Nat.zero_le,true_and,Nat.zero_add,Array.length_toList,Nat.sub_zero,Tree.get_leaf,Array.getElem?_toList]
    refine⟨(a.tmps.toList.take args.size).toArray,⟨by simp;omega,fun i h1 h2=>?_⟩,?_⟩
    ·have:=hget i
     rw[hval i,if_pos h1,Array.getElem?_eq_getElem h1]at this
     have h3:i<a.tmps.size:=by omega
     have e:a.tmps.getD i undef=a.tmps[i]:=by simp[Array.getD,h3]
     rw[e]at this
     simpa using this
    ·have hb0:b.roundOf=none:=by
      rcases hrel.ro with⟨_,h3⟩|⟨l2,l',h3,_⟩
      ·exact h3
      ·cases h3
     have hd:a.defers=[]:=by
      have:=hrel.defers
      cases e:a.defers with
      |nil=>rfl
      |cons x y=>rw[e]at this;exact this.elim
     have htm:a.tmps=(a.tmps.toList.take args.size).toArray++Array.replicate (fn.ntmps-(a.tmps.toList.take args.size).toArray.size) undef:=by
      apply Array.ext
      ·simp;omega
      ·intro i h1 h2
       by_cases h3:i<args.size
       ·rw[Array.getElem_append_left (by simp;omega)]
        simp
       ·rw[Array.getElem_append_right (by simp;omega),Array.getElem_replicate]
        have:=hget i
        rw[hval i,if_neg h3]at this
        have e:a.tmps.getD i undef=a.tmps[i]:=by simp[Array.getD,h1]
        rw[e]at this
        exact ground_eq 9 undef rfl ρ _ this
     have hkind:=hrel.kind
     have hfn:=hrel.fn
     simp only at hfn
     unfold Frame.enter Frame.atR
     simp only[hf,hb,hfn,hkind,hb0,hd,Option.map_some,Option.bind_some,Option.getD_some]
     rw[←htm]
   ·cases h
  ·cases h
 ·cases h
def oracle(g:FuncId)(spec:Array Value→St→Option (Value×St))(fr:CF)(s:St):Option (Value×St):=
 match fr.who with
 |some (f,args)=>match Nat.beq f g with
  |true=>spec args s
  |false=>none
 |none=>none
theorem oracle_sound{P:Program}{g:FuncId}{spec:Array Value→St→Option (Value×St)}
 (hs: ∀args s v s1,spec args s=some (v,s1)→Mono s s1∧ ∀F,Fp.Sub s1.fp F→ ∀ρ w args',Fresh ρ s s1→Inv F ρ s w→GR P ρ→ARel ρ args args'→ ∀cs,
  ∃ρ1 w1 v',Inv F ρ1 s1 w1∧Ext s1.w ρ ρ1 s s1 w w1∧VRel ρ1 v v'∧Ends P (Frame.enter P g args' .normal) w v' w1 cs):
 RunOkE P (oracle g spec):=by
 intro fr s v s1 hE h
 unfold oracle at h
 split at h
 ·rename_i f args hwho
  split at h
  ·rename_i hfg
   have hfg:=Nat.eq_of_beq_eq_true hfg
   subst hfg
   obtain⟨hmo,hc⟩:=hs args s v s1 h
   refine⟨hmo,fun F hF ρ w b a hfresh hi hgr hrel cs=>?_⟩
   obtain⟨args',ha,he⟩:=entered_frame (hE f args hwho) hrel
   obtain⟨ρ1,w1,v',i1,e1,hv,hend⟩:=hc F hF ρ w args' hfresh hi hgr ha cs
   exact⟨ρ1,w1,v',i1,e1,hv,by rw[he];exact hend⟩
  ·cases h
 ·cases h
theorem ends_of_calls{P:Program}{g:FuncId}{args:Array Value}{w:World}{R:Ending→World→Prop}(h:Calls P g args w R)(hR: ∀e w1,R e w1→ ∃v,e=.returned v)(cs:List Frame):
 ∃v w1,R (.returned v) w1∧Ends P (Frame.enter P g args .normal) w v w1 cs:=by
 obtain⟨e,w',fr,hr,hc,hf,hl⟩:=h cs
 obtain⟨v,rfl⟩:=hR e w' hr
 exact⟨v,w',hr,.of_leave ⟨fr,hc,hf,hl⟩⟩
def orElse(c d:CF→St→Option (Value×St))(fr:CF)(s:St):Option (Value×St):=
 match c fr s with
 |some r=>some r
 |none=>d fr s
theorem orElse_ok{P:Program}{c d:CF→St→Option (Value×St)}(hc:RunOkE P c)(hd:RunOkE P d):RunOkE P (orElse c d):=by
 intro fr s v s1 hE h
 unfold orElse at h
 split at h
 ·rename_i r hr
  injection h with h
  subst h
  exact hc fr s v s1 hE hr
 ·exact hd fr s v s1 hE h
def noCall(_:CF)(_:St):Option (Value×St):=none
theorem noCall_ok(P:Program):RunOkE P noCall:=fun _ _ _ _ _ h=>by cases h
end Go.Canon
namespace Go.Canon
open Go.RowKit
variable [Ghosts]
inductive Ar where
 |n (K k:Int)
 |q (K D k:Int)
 |r (K D:Int)
 |s (d:List Int)
 |v (x:Value)
inductive Gd where
 |d (K k:Int)
 |q (K D k:Int)
 |r (K D:Int)
 |s (d:List Int)
def Gd.tag:Gd→Nat
 |.d _ _=>0
 |.q _ _ _=>1
 |.r _ _=>2
 |.s _=>3
def Gd.data:Gd→List Int
 |.d K k=>[K,k]
 |.q K D k=>[K,D,k]
 |.r K D=>[K,D]
 |.s l=>l
structure Res where
 g:Option Gd
 t:Value
def numV(n:Nat)(K:Int):Value:=.agg #[.bool (decide (K<0)),.complex .f64 n 1,.complex .f64 n 2,.complex .f64 n 3]
def zeroA:Array Value:= #[.bool false,.slice none 0 0,.slice none 0 0,.int .i64 0]
def numR(n:Nat):Value:=.agg #[.complex .f64 n 0,.complex .f64 n 1,.complex .f64 n 2]
def zeroR:Array Value:= #[.int .i64 0,.slice none 0 0,.slice none 0 0]
structure NumG:Prop where
 gm:Ghosts.gm=true
 shape: ∀{w:World} {K k:Int} {x:Array Value},Ghosts.is w 0 [K,k] x→ ∃a b c,x= #[.bool (decide (K<0)),a,b,c]∧tokV a=true∧tokV b=true∧tokV c=true
 zero: ∀w:World,Ghosts.is w 0 [0,0] zeroA
 shapeQ: ∀{w:World} {K D k:Int} {x:Array Value},Ghosts.is w 1 [K,D,k] x→ ∃a b c,x= #[.bool (decide (K<0)),a,b,c]∧tokV a=true∧tokV b=true∧tokV c=true
 shapeR: ∀{w:World} {K D:Int} {x:Array Value},Ghosts.is w 2 [K,D] x→ ∃a b c,x= #[a,b,c]∧tokV a=true∧tokV b=true∧tokV c=true
 zeroR: ∀w:World,Ghosts.is w 2 [0,1] zeroR
 shapeS: ∀{w:World} {d:List Int} {x:Array Value},Ghosts.is w 3 d x→ ∃b,x= #[.string b]
def IsAr(w:World):Ar→Value→Prop
 |.n K k,v=> ∃x,v=.agg x∧Ghosts.is w 0 [K,k] x
 |.q K D k,v=> ∃x,v=.agg x∧Ghosts.is w 1 [K,D,k] x
 |.r K D,v=> ∃x,v=.agg x∧Ghosts.is w 2 [K,D] x
 |.s d,v=>Ghosts.is w 3 d #[v]
 |.v x,v=>v=x
def AreArs(w:World):List Ar→List Value→Prop
 |[],[]=>True
 |a::as,v::vs=>IsAr w a v∧AreArs w as vs
 |_,_=>False
def plainAr(v:Value)(s:St):Option (Ar×St):=
 match ground 9 v with
 |true=>some (.v v,s)
 |false=>none
def arOf(v:Value)(s:St):Option (Ar×St):=
 match v with
 |.agg x=>match x.toList with
  |[.bool b,.complex .f64 n 1,.complex .f64 n2 2,.complex .f64 n3 3]=>match Nat.beq n n2&&Nat.beq n n3&&Nat.ble (n+1) s.n with
   |true=>match s.t.get n with
    |some (.ghost 0 [K,k])=>match need (b==decide (K<0)) (s.rd n)with
     |some s1=>some (.n K k,s1)
     |none=>none
    |some (.ghost 1 [K,D,k])=>match need (b==decide (K<0)) (s.rd n)with
     |some s1=>some (.q K D k,s1)
     |none=>none
    |_=>none
   |false=>none
  |[.bool b,.slice none 0 0,.slice none 0 0,.int .i64 z]=>match b,z with
   |false,0=>some (.n 0 0,s)
   |_,_=>none
  |[.complex .f64 n 0,.complex .f64 n2 1,.complex .f64 n3 2]=>match Nat.beq n n2&&Nat.beq n n3&&Nat.ble (n+1) s.n with
   |true=>match s.t.get n with
    |some (.ghost 2 [K,D])=>some (.r K D,s.rd n)
    |_=>none
   |false=>none
  |[.int .i64 z,.slice none 0 0,.slice none 0 0]=>match z with
   |0=>some (.r 0 1,s)
   |_=>none
  |_=>plainAr v s
 |.complex .f64 n 0=>match Nat.ble (n+1) s.n with
  |true=>match s.t.get n with
   |some (.ghost 3 d)=>some (.s d,s.rd n)
   |_=>none
  |false=>none
 |_=>plainAr v s
def arsOf:List Value→St→Option (List Ar×St)
 |[],s=>some ([],s)
 |v::vs,s=>match arOf v s with
  |some (a,s1)=>match arsOf vs s1 with
   |some (as,s2)=>some (a::as,s2)
   |none=>none
  |none=>none
def Looks(s s1:St):Prop:=Mono s s1∧s1.t=s.t∧s1.n=s.n∧s1.w=s.w
theorem Looks.refl(s:St):Looks s s:=⟨.refl s,rfl,rfl,rfl⟩
theorem Looks.trans{a b c:St}(h:Looks a b)(k:Looks b c):Looks a c:=⟨h.1.trans k.1,k.2.1.trans h.2.1,k.2.2.1.trans h.2.2.1,k.2.2.2.trans h.2.2.2⟩
theorem Looks.rd(s:St)(b:Nat):Looks s (s.rd b):=⟨s.rd_mono b,rfl,rfl,rfl⟩
theorem Looks.need{b:Bool}{s s1:St}(h:need b s=some s1):Looks s s1:=by
 obtain⟨h1,h2,_⟩:=need_inv h
 exact⟨h2,h1.1,h1.2.1,h1.2.2.2⟩
theorem Looks.inv{s s1:St}(h:Looks s s1){F:Fp}{ρ:Map}{w:World}(hi:Inv F ρ s w):Inv F ρ s1 w:=⟨by rw[h.2.1,h.2.2.1];exact hi.at_,hi.inj,hi.lt,hi.ok⟩
theorem Looks.ext{s s1:St}(h:Looks s s1){W:Nat}{ρ:Map}{w:World}:Ext W ρ ρ s s1 w w:=
 ⟨.refl _,h.1.n,fun b _ _=>by rw[h.2.1],fun _ _ _=>rfl,fun _ _=>rfl,fun _ _=>.inl rfl,fun _ _ _=>rfl,Nat.le_refl _,fun b c h1 h2=>absurd h1 (by rw[h.2.2.1]at h2;omega),rfl,rfl,rfl,fun _=>.refl _⟩
theorem plainAr_ok{v:Value}{s s1:St}{a:Ar}(h:plainAr v s=some (a,s1)):Looks s s1∧ ∀F,Fp.Sub s1.fp F→ ∀ρ w v',Inv F ρ s w→VRel ρ v v'→IsAr w a v':=by
 unfold plainAr at h
 split at h
 ·rename_i hg
  injection h with h;injection h with h1 h2
  subst h1 h2
  exact⟨.refl _,fun F _ ρ w v' _ hv=>ground_eq 9 v hg ρ v' hv⟩
 ·cases h
theorem tok_inv{ρ:Map}{n j:Nat}{x:Array Value}{v':Value}(h:VRel ρ (.complex .f64 n j) v')(e:ρ n=.num x):x[j]?=some v':=by
 cases h with
 |tok _ _ y _ h1 h2 _=>rw[e]at h1;injection h1 with h1;subst h1;exact h2
theorem tok_cells{ρ:Map}{n:Nat}{b c:Bool}{p q r:Value}{x x':Array Value}(h1:ρ n=.num #[.bool c,p,q,r])(hx:x.toList=[.bool b,.complex .f64 n 1,.complex .f64 n 2,.complex .f64 n 3])(hb:(b==c)=true)
 (hr:x.size=x'.size∧ ∀(i:Nat) (h:i<x.size) (h':i<x'.size),VRel ρ x[i] x'[i]):x'= #[.bool c,p,q,r]:=by
 have hs:=hr.1
 have ex:x= #[.bool b,.complex .f64 n 1,.complex .f64 n 2,.complex .f64 n 3]:=Array.ext' hx
 subst ex
 have get: ∀(i:Nat) (hi:i<4),VRel ρ ((#[Value.bool b,.complex .f64 n 1,.complex .f64 n 2,.complex .f64 n 3])[i]'(by simpa using hi)) (x'[i]'(by simp at hs;omega)):=fun i hi=>hr.2 i _ _
 have g0:=(get 0 (by omega)).bool_inv
 have g1:=tok_inv (get 1 (by omega)) h1
 have g2:=tok_inv (get 2 (by omega)) h1
 have g3:=tok_inv (get 3 (by omega)) h1
 simp at g1 g2 g3
 apply Array.ext
 ·simpa using hs.symm
 ·intro i h3 h4
  simp at h4
  have:i=0∨i=1∨i=2∨i=3:=by omega
  rcases this with rfl|rfl|rfl|rfl
  ·rw[g0];simp at hb;simp[hb]
  ·simp[←g1]
  ·simp[←g2]
  ·simp[←g3]
theorem tok_cellsR{ρ:Map}{n:Nat}{p q r:Value}{x x':Array Value}(h1:ρ n=.num #[p,q,r])(hx:x.toList=[.complex .f64 n 0,.complex .f64 n 1,.complex .f64 n 2])
 (hr:x.size=x'.size∧ ∀(i:Nat) (h:i<x.size) (h':i<x'.size),VRel ρ x[i] x'[i]):x'= #[p,q,r]:=by
 have hs:=hr.1
 have ex:x= #[.complex .f64 n 0,.complex .f64 n 1,.complex .f64 n 2]:=Array.ext' hx
 subst ex
 have get: ∀(i:Nat) (hi:i<3),VRel ρ ((#[Value.complex .f64 n 0,.complex .f64 n 1,.complex .f64 n 2])[i]'(by simpa using hi)) (x'[i]'(by simp at hs;omega)):=fun i hi=>hr.2 i _ _
 have g0:=tok_inv (get 0 (by omega)) h1
 have g1:=tok_inv (get 1 (by omega)) h1
 have g2:=tok_inv (get 2 (by omega)) h1
 simp at g0 g1 g2
 apply Array.ext
 ·simpa using hs.symm
 ·intro i h3 h4
  simp at h4
  have:i=0∨i=1∨i=2:=by omega
  rcases this with rfl|rfl|rfl
  ·simp[←g0]
  ·simp[←g1]
  ·simp[←g2]
theorem arOf_ok(hN:NumG){v:Value}{s s1:St}{a:Ar}(h:arOf v s=some (a,s1)):Looks s s1∧ ∀F,Fp.Sub s1.fp F→ ∀ρ w v',Inv F ρ s w→VRel ρ v v'→IsAr w a v':=by
 unfold arOf at h
 split at h
 ·rename_i x
  split at h
  ·rename_i b n n2 n3 hx
   split at h
   ·rename_i hn
    simp only[Bool.and_eq_true,Nat.beq_eq,Nat.ble_eq]at hn
    obtain⟨⟨e1,e2⟩,hlt⟩:=hn
    subst e1 e2
    split at h
    ·rename_i K k hg
     split at h
     ·rename_i s2 hnd
      injection h with h;injection h with h1 h2
      subst h1 h2
      have hl:=Looks.need hnd
      refine⟨(Looks.rd s n).trans hl,fun F hF ρ w v' hi hv=>?_⟩
      have hb:=(need_inv hnd).2.2 (hF.2 hi.ok)
      have hbit:F.testBit n=true:=(hl.1.fp.trans hF).1 _ (by simp[St.fp,Fp.testBit,St.rd,Nat.testBit_or])
      have hA:=hi.at_ n hlt hbit
      rw[hg]at hA
      cases hA with
      |ghost _ _ y _ h1 h2=>
       obtain⟨x',rfl,hr⟩:=hv.agg_inv
       refine⟨x',rfl,?_⟩
       obtain⟨p,q,r,rfl,_,_,_⟩:=hN.shape h2
       rw[tok_cells h1 hx hb hr];exact h2
     ·cases h
    ·rename_i K D k hg
     split at h
     ·rename_i s2 hnd
      injection h with h;injection h with h1 h2
      subst h1 h2
      have hl:=Looks.need hnd
      refine⟨(Looks.rd s n).trans hl,fun F hF ρ w v' hi hv=>?_⟩
      have hb:=(need_inv hnd).2.2 (hF.2 hi.ok)
      have hbit:F.testBit n=true:=(hl.1.fp.trans hF).1 _ (by simp[St.fp,Fp.testBit,St.rd,Nat.testBit_or])
      have hA:=hi.at_ n hlt hbit
      rw[hg]at hA
      cases hA with
      |ghost _ _ y _ h1 h2=>
       obtain⟨x',rfl,hr⟩:=hv.agg_inv
       refine⟨x',rfl,?_⟩
       obtain⟨p,q,r,rfl,_,_,_⟩:=hN.shapeQ h2
       rw[tok_cells h1 hx hb hr];exact h2
     ·cases h
    ·cases h
   ·cases h
  ·rename_i b z hx
   split at h
   ·injection h with h;injection h with h1 h2
    subst h1 h2
    refine⟨.refl _,fun F _ ρ w v' _ hv=>?_⟩
    have ex:x=zeroA:=Array.ext' hx
    subst ex
    have:=ground_eq 9 _ (by decide) ρ v' hv
    exact⟨_,this,hN.zero w⟩
   ·cases h
  ·rename_i n n2 n3 hx
   split at h
   ·rename_i hn
    simp only[Bool.and_eq_true,Nat.beq_eq,Nat.ble_eq]at hn
    obtain⟨⟨e1,e2⟩,hlt⟩:=hn
    subst e1 e2
    split at h
    ·rename_i K D hg
     injection h with h;injection h with h1 h2
     subst h1 h2
     refine⟨Looks.rd s n,fun F hF ρ w v' hi hv=>?_⟩
     have hbit:F.testBit n=true:=hF.1 _ (by simp[St.fp,Fp.testBit,St.rd,Nat.testBit_or])
     have hA:=hi.at_ n hlt hbit
     rw[hg]at hA
     cases hA with
     |ghost _ _ y _ h1 h2=>
      obtain⟨x',rfl,hr⟩:=hv.agg_inv
      refine⟨x',rfl,?_⟩
      obtain⟨p,q,r,rfl,_,_,_⟩:=hN.shapeR h2
      rw[tok_cellsR h1 hx hr];exact h2
    ·cases h
   ·cases h
  ·rename_i z hx
   split at h
   ·injection h with h;injection h with h1 h2
    subst h1 h2
    refine⟨.refl _,fun F _ ρ w v' _ hv=>?_⟩
    have ex:x=zeroR:=Array.ext' hx
    subst ex
    have:=ground_eq 9 _ (by decide) ρ v' hv
    exact⟨_,this,hN.zeroR w⟩
   ·cases h
  ·exact plainAr_ok h
 ·rename_i n
  split at h
  ·rename_i hn
   rw[Nat.ble_eq]at hn
   split at h
   ·rename_i d hg
    injection h with h;injection h with h1 h2
    subst h1 h2
    refine⟨Looks.rd s n,fun F hF ρ w v' hi hv=>?_⟩
    have hbit:F.testBit n=true:=hF.1 _ (by simp[St.fp,Fp.testBit,St.rd,Nat.testBit_or])
    have hA:=hi.at_ n hn hbit
    rw[hg]at hA
    cases hA with
    |ghost _ _ y _ h1 h2=>
     obtain⟨b,rfl⟩:=hN.shapeS h2
     have:=tok_inv hv h1
     simp at this
     subst this
     exact h2
   ·cases h
  ·cases h
 ·exact plainAr_ok h
theorem arsOf_ok(hN:NumG): ∀(l:List Value) (s s1:St) (as:List Ar),arsOf l s=some (as,s1)→Looks s s1∧ ∀F,Fp.Sub s1.fp F→ ∀ρ w l',Inv F ρ s w→LRel ρ l l'→AreArs w as l'
 |[],s,s1,as,h=>by
  simp only[arsOf]at h;injection h with h;injection h with h1 h2;subst h1 h2
  refine⟨.refl _,fun F _ ρ w l' _ hl=>?_⟩
  cases l' with
  |nil=>trivial
  |cons _ _=>exact hl.elim
 |v::vs,s,s1,as,h=>by
  simp only[arsOf]at h
  split at h
  ·rename_i a s2 h1
   split at h
   ·rename_i as2 s3 h2
    injection h with h;injection h with e1 e2;subst e1 e2
    obtain⟨k1,k2⟩:=arOf_ok hN h1
    obtain⟨k3,k4⟩:=arsOf_ok hN vs _ _ _ h2
    refine⟨k1.trans k3,fun F hF ρ w l' hi hl=>?_⟩
    cases l' with
    |nil=>exact hl.elim
    |cons v' vs'=>exact⟨k2 F (k3.1.fp.trans hF) ρ w v' hi hl.1,k4 F hF ρ w vs' (k1.inv hi) hl.2⟩
   ·cases h
  ·cases h
def subst(n:Nat):Nat→Value→Value
 |d+1,v=>match v with
  |.complex _ _ j=>.complex .f64 n j
  |.agg x=>.agg ⟨x.toList.map (subst n d)⟩
  |.tuple x=>.tuple ⟨x.toList.map (subst n d)⟩
  |v=>v
 |0,v=>v
def ResIs(w:World)(R:Res)(v':Value):Prop:=
 match R.g with
 |none=>v'=R.t
 |some g=> ∃x,Ghosts.is w g.tag g.data x∧ ∀(ρ:Map) (n:Nat),ρ n=.num x→VRel ρ (subst n 4 R.t) v'
def askL:List Value→St→List Value×St
 |[],s=>([],s)
 |.bool b::.complex k i (j+1)::l,s=>(.bool b::.complex k i (j+1)::(askL l s).1,(askL l s).2)
 |.bool b::l,s=>(.bool (s.ask b).1::(askL l (s.ask b).2).1,(askL l (s.ask b).2).2)
 |v::l,s=>(v::(askL l s).1,(askL l s).2)
def askV(v:Value)(s:St):Value×St:=
 match v with
 |.bool b=>(.bool (s.ask b).1,(s.ask b).2)
 |.agg x=>(.agg ⟨(askL x.toList s).1⟩,(askL x.toList s).2)
 |.tuple x=>match x.toList with
  |[.agg y,z]=>(.tuple #[.agg ⟨(askL y.toList s).1⟩,z],(askL y.toList s).2)
  |l=>(.tuple ⟨(askL l s).1⟩,(askL l s).2)
 |v=>(v,s)
theorem askL_looks(l:List Value)(s:St):Looks s (askL l s).2∧((askL l s).2.good→(askL l s).1=l):=by
 have step: ∀s b,Looks s (s.ask b).2:=fun s b=>⟨ask_mono s b,(ask_same s b).1,(ask_same s b).2.1,(ask_same s b).2.2.2⟩
 fun_induction askL l s with
 |case1 s=>exact⟨.refl s,fun _=>rfl⟩
 |case2 s b k i j l ih=>exact⟨ih.1,fun g=>by simp only at g⊢;rw[ih.2 g]⟩
 |case3 b l s _ ih=>
  refine⟨(step s b).trans ih.1,fun g=>?_⟩
  simp only at g⊢
  rw[ih.2 g,ask_eq s b (ih.1.1.good g)]
 |case4 s v l _ _ ih=>exact⟨ih.1,fun g=>by simp only at g⊢;rw[ih.2 g]⟩
theorem askV_looks(v:Value)(s:St):Looks s (askV v s).2∧((askV v s).2.good→(askV v s).1=v):=by
 unfold askV
 split
 ·rename_i b
  refine⟨⟨ask_mono s b,(ask_same s b).1,(ask_same s b).2.1,(ask_same s b).2.2.2⟩,fun g=>?_⟩
  simp only at g⊢
  rw[ask_eq s b g]
 ·rename_i x
  obtain⟨h1,h2⟩:=askL_looks x.toList s
  exact⟨h1,fun g=>by simp only at g⊢;rw[h2 g]⟩
 ·rename_i x
  split
  ·rename_i y z hx
   obtain⟨h1,h2⟩:=askL_looks y.toList s
   refine⟨h1,fun g=>?_⟩
   simp only at g⊢
   rw[h2 g]
   have:x= #[.agg y,z]:=Array.ext' hx
   rw[this]
  ·obtain⟨h1,h2⟩:=askL_looks x.toList s
   exact⟨h1,fun g=>by simp only at g⊢;rw[h2 g]⟩
 ·exact⟨.refl s,fun _=>rfl⟩
def putRes(R:Res)(s:St):Option (Value×St):=
 match R.g with
 |none=>match ground 9 R.t with
  |true=>some (askV R.t s)
  |false=>none
 |some g=>match Nat.ble (s.n+2) 1099511627776 with
  |true=>some (askV (subst s.n 4 R.t) (s.add (.ghost g.tag g.data)))
  |false=>none
structure Tabs where
 g:Nat
 ro:List (Nat×List Value)
def EnvT(T:Tabs)(w:World):Prop:=(∃o,w.heap[T.g]?=some o∧Ghosts.fact 0 o)∧ ∀p∈T.ro,∃c' e f,w.heap[p.1]?=some (.cells c' e f)∧ ∀(i:Nat) (v:Value),p.2[i]?=some v→c'[i]?=some v
def Con(P:Program)(T:Tabs)(g:FuncId)(as:List Ar)(R:Res):Prop:=
 ∀w,P.globals.size≤w.heap.size→EnvT T w→ ∀args':Array Value,AreArs w as args'.toList→Calls P g args' w fun e w1=> ∃v',e=.returned v'∧ResIs w1 R v'∧Below w.heap.size w w1
def rosOf:List (Nat×List Value)→St→Option St
 |[],s=>some s
 |p::l,s=>match Nat.ble (p.1+1) s.n with
  |true=>match s.t.get p.1 with
   |some (.ro c)=>match eqL (eqV 3) c p.2 with
    |true=>rosOf l (s.rd p.1)
    |false=>none
   |_=>none
  |false=>none
def conSpec(T:Tabs)(pre:List Ar→Bool)(spec:List Ar→Option Res)(args:Array Value)(s:St):Option (Value×St):=
 match Nat.ble (T.g+1) s.n with
 |true=>match s.t.get T.g with
  |some (.fact 0)=>match rosOf T.ro (s.rd T.g)with
   |some s0=>match arsOf args.toList s0 with
    |some (as,s1)=>match spec as with
     |some R=>match need (pre as) s1 with
      |some s2=>putRes R s2
      |none=>none
     |none=>none
    |none=>none
   |none=>none
  |_=>none
 |false=>none
theorem rosOf_ok: ∀(l:List (Nat×List Value)) (s s1:St),(∀p∈l,p.2.all (ground 3)=true)→rosOf l s=some s1→Looks s s1∧ ∀F,Fp.Sub s1.fp F→ ∀(P:Program) ρ w,(∀p∈l,p.1<P.globals.size)→GR P ρ→Inv F ρ s w→ ∀p∈l,∃c' e f,w.heap[p.1]?=some (.cells c' e f)∧ ∀(i:Nat) (v:Value),p.2[i]?=some v→c'[i]?=some v
 |[],s,s1,_,h=>by
  simp only[rosOf]at h;injection h with h;subst h
  exact⟨.refl _,fun _ _ _ _ _ _ _ _ p hp=>by cases hp⟩
 |p::l,s,s1,hg,h=>by
  simp only[rosOf]at h
  split at h
  ·rename_i hlt
   split at h
   ·rename_i c hc
    split at h
    ·rename_i he
     obtain⟨k1,k2⟩:=rosOf_ok l _ _ (fun q hq=>hg q (List.mem_cons_of_mem _ hq)) h
     refine⟨(Looks.rd s p.1).trans k1,fun F hF P ρ w hb hgr hi q hq=>?_⟩
     rcases List.mem_cons.1 hq with rfl|hq
     ·have hbit:F.testBit q.1=true:=(k1.1.fp.trans hF).1 _ (by simp[St.fp,Fp.testBit,St.rd,Nat.testBit_or])
      have hA:=hi.at_ q.1 (Nat.le_of_ble_eq_true hlt) hbit
      rw[hc]at hA
      obtain⟨b',c',e,f,h1,h2,h3,_⟩:=hA.row rfl
      rw[hgr q.1 (hb q (List.mem_cons_self))]at h1
      injection h1 with h1
      subst h1
      have hcq:c=q.2:=eqL_ok (fun a b h=>eqV_ok 3 a b h) he
      refine⟨c',e,f,h2,fun i v hv=>?_⟩
      rw[←hcq]at hv
      obtain⟨v',k3,k4⟩:=h3 i v hv
      have hgv:ground 3 v=true:=by
       have:=hg q List.mem_cons_self
       rw[List.all_eq_true]at this
       exact this v (by rw[←hcq];exact List.mem_of_getElem? hv)
      rw[k3,ground_eq 3 v hgv ρ v' k4]
     ·exact k2 F hF P ρ w (fun q hq=>hb q (List.mem_cons_of_mem _ hq)) hgr ((Looks.rd s p.1).inv hi) q hq
    ·cases h
   ·cases h
  ·cases h
theorem Inv.below{F:Fp}{ρ:Map}{s:St}{w w1:World}(hi:Inv F ρ s w)(hb:Below w.heap.size w w1):Inv F ρ s w1:=
 ⟨fun c hc hF=>(hi.at_ c hc hF).keep (.refl _) rfl (fun x hx=>hb.block x (hi.lt c x hx)) (fun _=>.of_same fun c hc=>hb.block c hc),hi.inj,fun c x hx=>Nat.lt_of_lt_of_le (hi.lt c x hx) hb.size,hi.ok⟩
theorem Ext.below{W:Nat}{ρ:Map}{s:St}{w w1:World}(hb:Below w.heap.size w w1):Ext W ρ ρ s s w w1:=
 ⟨.refl _,Nat.le_refl _,fun _ _ _=>rfl,fun _ _ _=>rfl,fun _ _=>rfl,fun _ _=>.inl rfl,fun c hc _=>hb.block c hc,hb.size,fun b c h1 h2=>absurd h1 (by omega),hb.os,hb.output,hb.tape,fun _=>.of_same fun c hc=>hb.block c hc⟩
theorem inv_ghost{F:Fp}{ρ:Map}{s:St}{w:World}{t:Nat}{d:List Int}{x:Array Value}(hi:Inv F ρ s w)(hn:s.n+1<2^40)(hf:ρ s.n=.none)(hg:Ghosts.gm=true)(hx:Ghosts.is w t d x):
 Inv F (ρ.put s.n (.num x)) (s.add (.ghost t d)) w∧Ext (s.add (.ghost t d)).w ρ (ρ.put s.n (.num x)) s (s.add (.ghost t d)) w w:=by
 have hl:=le_put (ρ:=ρ) (b:=s.n) (.num x) hf
 have tg: ∀c y,(ρ.put s.n (.num x) c).tgt=some y→c≠s.n∧(ρ c).tgt=some y:=by
  intro c y e
  by_cases h1:c=s.n
  ·subst h1;rw[Map.put_self]at e;cases e
  ·rw[Map.put_ne _ _ h1]at e;exact⟨h1,e⟩
 refine⟨⟨?_,?_,?_,hi.ok⟩,⟨hl,Nat.le_succ _,?_,?_,?_,?_,fun c hc _=>rfl,Nat.le_refl _,?_,rfl,rfl,rfl,fun _=>.refl _⟩⟩
 ·intro c hc hF'
  simp only[St.add]at hc⊢
  rw[Tree.get_set 40 _ _ _ _ hn]
  by_cases e:c=s.n
  ·subst e
   rw[if_pos rfl]
   exact .ghost t d x hg (Map.put_self _ _ _) hx
  ·rw[if_neg e]
   exact(hi.at_ c (by omega) hF').keep hl (Map.put_ne _ _ e) (fun c' hc'=>rfl) (fun _=>.refl _)
 ·intro b c y h1 h2
  exact hi.inj b c y (tg b y h1).2 (tg c y h2).2
 ·intro b y h1;exact hi.lt b y (tg b y h1).2
 ·intro c hc _
  simp only[St.add]
  rw[Tree.get_set 40 _ _ _ _ hn,if_neg (by omega)]
 ·intro c hc _;exact Map.put_ne _ _ (by omega)
 ·intro c hc;exact Map.put_ne _ _ (by simp only[St.add]at hc;omega)
 ·intro c hc;exact .inl (Map.put_ne _ _ (by omega))
 ·intro b c h1 h2 h3
  simp only[St.add]at h2
  exact absurd (tg b c h3).1 (by omega)
theorem con_oracle(hN:NumG){P:Program}{T:Tabs}{g:FuncId}{pre:List Ar→Bool}{spec:List Ar→Option Res}(hT:T.g<P.globals.size)(hro: ∀p∈T.ro,p.1<P.globals.size∧p.2.all (ground 3)=true)
 (hc: ∀as R,spec as=some R→pre as=true→Con P T g as R):RunOkE P (oracle g (conSpec T pre spec)):=by
 refine oracle_sound fun args s v s1 h=>?_
 unfold conSpec at h
 split at h
 ·rename_i hlt
  split at h
  ·rename_i hfact
   split at h
   ·rename_i s0 hros
    split at h
    ·rename_i as sa has
     split at h
     ·rename_i R hR
      split at h
      ·rename_i s2 hnd
       obtain⟨l1,r1⟩:=rosOf_ok _ _ _ (fun p hp=>(hro p hp).2) hros
       obtain⟨l2,r2⟩:=arsOf_ok hN _ _ _ _ has
       have l3:=Looks.need hnd
       have lk:Looks s s2:=(((Looks.rd s T.g).trans l1).trans l2).trans l3
       have main: ∀F,Fp.Sub s2.fp F→ ∀ρ w args',Inv F ρ s w→GR P ρ→ARel ρ args args'→ ∀cs,∃v' w1,(ResIs w1 R v'∧Below w.heap.size w w1)∧Ends P (Frame.enter P g args' .normal) w v' w1 cs:=by
        intro F hF ρ w args' hi hgr ha cs
        have hpre:=(need_inv hnd).2.2 (hF.2 hi.ok)
        have hFa:=l3.1.fp.trans hF
        have hF0:=l2.1.fp.trans hFa
        have hFd:=l1.1.fp.trans hF0
        have i0:=(Looks.rd s T.g).inv hi
        have i1:=l1.inv i0
        have hsz:P.globals.size≤w.heap.size:=by
         have:=hi.lt (P.globals.size-1) (P.globals.size-1) (by rw[hgr _ (by omega)];rfl)
         omega
        have henv:EnvT T w:=by
         refine⟨?_,fun p hp=>r1 F hF0 P ρ w (fun q hq=>(hro q hq).1) hgr i0 p hp⟩
         have hbit:F.testBit T.g=true:=hFd.1 _ (by simp[St.fp,Fp.testBit,St.rd,Nat.testBit_or])
         have hA:=hi.at_ T.g (Nat.le_of_ble_eq_true hlt) hbit
         rw[hfact]at hA
         cases hA with
         |fact _ b' o h1 h2 h3=>
          rw[hgr T.g hT]at h1
          injection h1 with h1
          subst h1
          exact⟨o,h2,h3⟩
        have hars:=r2 F hFa ρ w args'.toList i1 ha.lrel
        obtain⟨v',w1,⟨v2,e,h1,h2⟩,h3⟩:=ends_of_calls (hc as R hR hpre w hsz henv args' hars) (fun e w1 ⟨v,e1,_⟩=>⟨v,e1⟩) cs
        injection e with e
        subst e
        exact⟨v',w1,⟨h1,h2⟩,h3⟩
       unfold putRes at h
       split at h
       ·rename_i hRg
        split at h
        ·rename_i hgt
         injection h with h
         obtain⟨la,lb⟩:=askV_looks R.t s2
         have e1:(askV R.t s2).1=v:=by rw[h]
         have e2:(askV R.t s2).2=s1:=by rw[h]
         rw[e2]at la lb
         rw[e1]at lb
         refine⟨(lk.trans la).1,fun F hF ρ w args' hfr hi hgr ha cs=>?_⟩
         obtain⟨v',w1,⟨h1,h2⟩,h3⟩:=main F (la.1.fp.trans hF) ρ w args' hi hgr ha cs
         have lv:=lb (hF.2 hi.ok)
         subst lv
         unfold ResIs at h1
         rw[hRg]at h1
         simp only at h1
         subst h1
         exact⟨ρ,w1,_,((lk.trans la).inv hi).below h2,((lk.trans la).ext).trans (.below h2),ground_rel 9 _ hgt ρ,h3⟩
        ·cases h
       ·rename_i gd hRg
        split at h
        ·rename_i hn
         injection h with h
         obtain⟨la,lb⟩:=askV_looks (subst s2.n 4 R.t) (s2.add (.ghost gd.tag gd.data))
         have e1:(askV (subst s2.n 4 R.t) (s2.add (.ghost gd.tag gd.data))).1=v:=by rw[h]
         have e2:(askV (subst s2.n 4 R.t) (s2.add (.ghost gd.tag gd.data))).2=s1:=by rw[h]
         rw[e2]at la lb
         rw[e1]at lb
         have hn40:s2.n+1<2^40:=by
          have:=Nat.le_of_ble_eq_true hn;omega
         have ma:=s2.add_mono (.ghost gd.tag gd.data) hn40
         refine⟨(lk.1.trans ma).trans la.1,fun F hF ρ w args' hfr hi hgr ha cs=>?_⟩
         obtain⟨v',w1,⟨h1,h2⟩,h3⟩:=main F (ma.fp.trans (la.1.fp.trans hF)) ρ w args' hi hgr ha cs
         have lv:=lb (hF.2 hi.ok)
         subst lv
         unfold ResIs at h1
         rw[hRg]at h1
         simp only at h1
         obtain⟨x,hx,hv⟩:=h1
         have hnone:ρ s2.n=.none:=hfr s2.n (by rw[lk.2.2.1];exact Nat.le_refl _) (by rw[la.2.2.1];simp only[St.add];omega)
         obtain⟨i2,e3⟩:=inv_ghost ((lk.inv hi).below h2) hn40 hnone hN.gm hx
         refine⟨_,w1,v',la.inv i2,?_,hv _ _ (Map.put_self _ _ _),h3⟩
         rw[la.2.2.2]
         exact(((lk.ext).trans (.below h2)).trans e3).trans la.ext
        ·cases h
      ·cases h
     ·cases h
    ·cases h
   ·cases h
  ·cases h
 ·cases h
end Go.Canon
