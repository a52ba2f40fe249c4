/-
  Frames, calls; one operation of a region, with all that it calls.
-/
import Derived.Test.YtedhbbjlbgpafaaGreatDoorP02
import Derived.AtR
set_option linter.unusedVariables false
set_option linter.unusedSimpArgs false
set_option linter.unusedSectionVars false
namespace Go.Canon
variable [Ghosts]
structure CF where
 fn:FuncId
 tm:Tree Value
 sz:Nat
 defers:List Nat
 todo:List Item
 ro:Option Nat
 who:Option (Nat×Array Value):=none
def DRel(ρ:Map):List Nat→List Deferred→Prop
 |[],[]=>True
 |d::ds,e::es=>(∃d',ρ d=.hard d'∧e={target:=.collected d',args:= #[]})∧DRel ρ ds es
 |_,_=>False
theorem DRel.mono{ρ ρ1:Map}(hl:le ρ ρ1): ∀{l:List Nat} {l':List Deferred},DRel ρ l l'→DRel ρ1 l l'
 |[],[],_=>trivial
 |_::_,_::_,⟨⟨d',h1,h2⟩,h⟩=>⟨⟨d',hl.hard h1,h2⟩,DRel.mono hl h⟩
structure FRel(ρ:Map)(fr:CF)(b:Frame)(a:Act):Prop where
 fn:b.fn=fr.fn
 kind:b.kind=.normal
 ro:(fr.ro=none∧b.roundOf=none)∨ ∃l l',fr.ro=some l∧b.roundOf=some l'∧ρ l=.hard l'
 tm:TRel ρ fr.tm fr.sz a.tmps
 defers:DRel ρ fr.defers a.defers
theorem FRel.mono{ρ ρ1:Map}{fr:CF}{b:Frame}{a:Act}(h:FRel ρ fr b a)(hl:le ρ ρ1):FRel ρ1 fr b a:=
 ⟨h.fn,h.kind,h.ro.imp id (fun⟨l,l',h1,h2,h3⟩=>⟨l,l',h1,h2,hl.hard h3⟩),h.tm.mono hl,h.defers.mono hl⟩
def GR(P:Program)(ρ:Map):Prop:= ∀g,g<P.globals.size→ρ g=.hard g
theorem GR.mono{P:Program}{ρ ρ1:Map}(h:GR P ρ)(hl:le ρ ρ1):GR P ρ1:=fun g hg=>hl.hard (h g hg)
structure Ends(P:Program)(f0:Frame)(w:World)(v:Value)(w1:World)(cs:List Frame):Prop where
 leave:f0.roundOf=none→ ∃fr1,Steps P (lone f0 cs w) (lone fr1 cs w1)∧fr1.fn=f0.fn∧fr1.leaving P w1 (.returned v)
 back: ∀c cs',cs=c::cs'→Steps P (lone f0 cs w) (lone (c.finish v) cs' w1)
theorem Ends.of_leave{P:Program}{f0:Frame}{w:World}{v:Value}{w1:World}{cs:List Frame}(h: ∃fr1,Steps P (lone f0 cs w) (lone fr1 cs w1)∧fr1.fn=f0.fn∧fr1.leaving P w1 (.returned v)):Ends P f0 w v w1 cs:=
 ⟨fun _=>h,fun c cs' e=>by
  subst e
  obtain⟨fr1,h1,_,h3⟩:=h
  exact h1.trans (.one (step_leave_returned h3))⟩
theorem Ends.of_steps{P:Program}{f0 f1:Frame}{w w1:World}{v:Value}{w2:World}{cs:List Frame}(h:Ends P f1 w1 v w2 cs)(hr:f1.roundOf=f0.roundOf)(hf:f1.fn=f0.fn)(hs:Steps P (lone f0 cs w) (lone f1 cs w1)):Ends P f0 w v w2 cs:=
 ⟨fun h0=>by
  obtain⟨fr1,h1,h2,h3⟩:=h.leave (hr.trans h0)
  exact⟨fr1,hs.trans h1,h2.trans hf,h3⟩,fun c cs' e=>hs.trans (h.back c cs' e)⟩
def RunOk(P:Program)(call:CF→St→Option (Value×St)):Prop:=
 ∀fr s v s1,call fr s=some (v,s1)→Mono s s1∧ ∀F,Fp.Sub s1.fp F→ ∀ρ w b a,Fresh ρ s s1→Inv F ρ s w→GR P ρ→FRel ρ fr b a→ ∀cs,
  ∃ρ1 w1 v',Inv F ρ1 s1 w1∧Ext s1.w ρ ρ1 s s1 w w1∧VRel ρ1 v v'∧Ends P (b.atR a fr.todo) w v' w1 cs
def fillL(tm:Tree Value)(i:Nat):List Value→Tree Value
 |[]=>tm
 |v::vs=>fillL (tm.set 40 i v) (i+1) vs
theorem fillL_get: ∀(vs:List Value) (tm:Tree Value) (i t:Nat),i+vs.length<2^39→(fillL tm i vs).get t=if i≤t∧t<i+vs.length then vs[t-i]? else tm.get t
 |[],tm,i,t,_=>by simp[fillL];omega
 |v::vs,tm,i,t,h=>by
  simp only[List.length_cons]at h
  rw[fillL,fillL_get vs _ _ t (by omega),Tree.get_set 40 _ _ _ _ (by omega)]
  by_cases h1:t=i
  ·subst h1
   rw[if_neg (by omega),if_pos rfl,if_pos (by simp)]
   simp
  ·rw[if_neg h1]
   by_cases h2:i+1≤t∧t<i+1+vs.length
   ·rw[if_pos h2,if_pos (by simp only[List.length_cons];omega)]
    rw[show t-i=(t-(i+1))+1 by omega]
    simp
   ·rw[if_neg h2,if_neg (by simp only[List.length_cons];omega)]
theorem undef_rel(ρ:Map):VRel ρ undef undef:=.tuple #[] #[] rfl (fun i h _=>by simp at h)
theorem fill_trel{ρ:Map}{x x':Array Value}(h:ARel ρ x x')(k:Nat)(hs:x.size<2^38):TRel ρ (fillL .leaf 0 x.toList) (x.size+k) (x'++Array.replicate k undef):=by
 refine⟨by simp[h.1],fun t=>?_⟩
 rw[fillL_get _ _ _ _ (by simp only[Array.length_toList];omega),Array.getD_eq_getD_getElem?]
 simp only[Nat.zero_le,true_and,Nat.zero_add,Array.length_toList,Nat.sub_zero,Tree.get_leaf]
 by_cases h1:t<x.size
 ·rw[if_pos h1,Array.getElem?_append_left (by rw[←h.1];exact h1)]
  obtain⟨v',e1,e2⟩:=h.prel t x[t] (by rw[Array.getElem?_toList];exact Array.getElem?_eq_some_iff.2 ⟨h1,rfl⟩)
  rw[e1,Array.getElem?_toList,Array.getElem?_eq_some_iff.2 ⟨h1,rfl⟩]
  exact e2
 ·rw[if_neg h1,Array.getElem?_append_right (by rw[←h.1];omega)]
  have:((Array.replicate k undef)[t-x'.size]?).getD undef=undef:=by
   rw[Array.getElem?_replicate]
   split<;>rfl
  rw[this]
  exact undef_rel ρ
def enterC(P:Program)(f:FuncId)(args:Array Value):Option CF:=
 match P.funcs[f]? with
 |some fn=>match fn.body with
  |some c=>if args.size<2^38 then some {fn:=f,tm:=fillL .leaf 0 args.toList,sz:=args.size+(fn.ntmps-args.size),defers:=[],todo:=[.code c],ro:=none,who:=some (f,args)}else none
  |none=>none
 |none=>none
theorem enterC_ok{P:Program}{f:FuncId}{args:Array Value}{fr:CF}(h:enterC P f args=some fr){ρ:Map}{args':Array Value}(ha:ARel ρ args args'):
 ∃b a,Frame.enter P f args' .normal=b.atR a fr.todo∧FRel ρ fr b a:=by
 unfold enterC at h
 split at h
 ·rename_i fn hf
  split at h
  ·rename_i c hb
   split at h
   ·rename_i hs
    injection h with h
    subst h
    refine⟨{(default:Frame)with fn:=f,kind:=.normal,roundOf:=none},{tmps:=args'++Array.replicate (fn.ntmps-args'.size) undef,defers:=[]},?_,rfl,rfl,.inl ⟨rfl,rfl⟩,?_,trivial⟩
    ·simp[Frame.enter,Frame.atR,hf,hb]
    ·have e:=ha.1
     simp only
     rw[←e]
     exact fill_trel ha _ hs
   ·cases h
  ·cases h
 ·cases h
def Entered(P:Program)(fr:CF):Prop:= ∀f args,fr.who=some (f,args)→enterC P f args=some fr
theorem entered_of{P:Program}{f:FuncId}{args:Array Value}{fr:CF}(h:enterC P f args=some fr):Entered P fr:=by
 intro g x e
 have h0:=h
 unfold enterC at h0
 split at h0
 ·split at h0
  ·split at h0
   ·injection h0 with h0
    subst h0
    injection e with e
    injection e with e1 e2
    subst e1 e2
    exact h
   ·cases h0
  ·cases h0
 ·cases h0
def RunOkE(P:Program)(call:CF→St→Option (Value×St)):Prop:=
 ∀fr s v s1,Entered P fr→call fr s=some (v,s1)→Mono s s1∧ ∀F,Fp.Sub s1.fp F→ ∀ρ w b a,Fresh ρ s s1→Inv F ρ s w→GR P ρ→FRel ρ fr b a→ ∀cs,
  ∃ρ1 w1 v',Inv F ρ1 s1 w1∧Ext s1.w ρ ρ1 s s1 w w1∧VRel ρ1 v v'∧Ends P (b.atR a fr.todo) w v' w1 cs
theorem RunOk.e{P:Program}{call:CF→St→Option (Value×St)}(h:RunOk P call):RunOkE P call:=fun fr s v s1 _ hc=>h fr s v s1 hc
def noDefer:Op→Bool
 |.defer _=>false
 |_=>true
def doOp(P:Program)(call:CF→St→Option (Value×St))(ev:Operand→Value)(o:Oper)(s:St):Option (Value×St):=
 if noDefer o.op then
  match opC P ev o s with
  |some (.val v,s1)=>some (v,s1)
  |some (.skip,s1)=>some (undef,s1)
  |some (.enter f args,s1)=>match enterC P f args with
   |some fr=>call fr s1
   |none=>none
  |some (.round l fn tm sz as bo,s1)=>call {fn,tm,sz,defers:=[],todo:=[.code as,.beginRound,.code bo],ro:=some l} s1
  |none=>none
 else none
def OpRun(P:Program)(ev:Operand→Value)(o:Oper)(s s1:St)(v:Value):Prop:=
 Mono s s1∧ ∀F,Fp.Sub s1.fp F→ ∀ρ w a,Fresh ρ s s1→Inv F ρ s w→GR P ρ→EvR ρ ev o.op a.eval→
  ∀(b:Frame) (ops:Array Oper) (i:Nat) (rest:List Nat) (k:List Item) (cs:List Frame),ops[i]?=some o→Region.wanted o (yielded ops a.tmps)=true→
  ∃ρ1 w1 v',Inv F ρ1 s1 w1∧Ext s1.w ρ ρ1 s s1 w w1∧VRel ρ1 v v'∧Steps P (lone (b.atR a (.inRegion ops (i::rest)::k)) cs w) (lone (b.atR (a.put o.dst v') (.inRegion ops rest::k)) cs w1)
theorem doOp_ok{P:Program}(hP:NG P){call:CF→St→Option (Value×St)}(hcall:RunOkE P call){ev:Operand→Value}{o:Oper}{s s1:St}{v:Value}(h:doOp P call ev o s=some (v,s1)):OpRun P ev o s s1 v:=by
 unfold doOp at h
 split at h
 ·rename_i hnd
  have hnd2: ∀c,o.op≠.defer c:=fun c e=>by rw[e]at hnd;cases hnd
  have fin: ∀(b:Frame) (ops:Array Oper) (i:Nat) (rest:List Nat) (k:List Item) (a:Act) (v:Value),ops[i]?=some o→(b.atR a (.inRegion ops (i::rest)::k)).finish v=b.atR (a.put o.dst v) (.inRegion ops rest::k):=by
   intro b ops i rest k a v ho;rw[Frame.finish_atR,ho];rfl
  split at h
  ·rename_i v1 s2 hop
   injection h with h;injection h with h1 h2
   subst h1 h2
   obtain⟨m,hs⟩:=opC_ok P hP hop
   refine⟨m,fun F hF ρ w a hf hi _ he b ops i rest k cs ho hw=>?_⟩
   obtain⟨ρ1,w1,i1,e1,r,hr,hn⟩:=hs F hF ρ w a.eval hf hi he
   cases hn with
   |val _ v' hv=>
    refine⟨ρ1,w1,v',i1,e1,hv,.one (step_lone_go ?_)⟩
    rw[stepGR_op ho hw,Oper.semAt_eq _ _ _ hnd2,←fin b ops i rest k a v' ho]
    simp[stepG.apply,hr]
  ·rename_i s2 hop
   injection h with h;injection h with h1 h2
   subst h1 h2
   obtain⟨m,hs⟩:=opC_ok P hP hop
   refine⟨m,fun F hF ρ w a hf hi _ he b ops i rest k cs ho hw=>?_⟩
   obtain⟨ρ1,w1,i1,e1,r,hr,hn⟩:=hs F hF ρ w a.eval hf hi he
   cases hn with
   |skip=>
    refine⟨ρ1,w1,undef,i1,e1,undef_rel _,.one (step_lone_go ?_)⟩
    rw[stepGR_op ho hw,Oper.semAt_eq _ _ _ hnd2,←fin b ops i rest k a undef ho]
    simp[stepG.apply,hr]
  ·rename_i f args s2 hop
   split at h
   ·rename_i fr hfr
    obtain⟨m,hs⟩:=opC_ok P hP hop
    obtain⟨m2,hs2⟩:=hcall _ _ _ _ (entered_of hfr) h
    refine⟨m.trans m2,fun F hF ρ w a hf hi hg he b ops i rest k cs ho hw=>?_⟩
    obtain⟨ρ1,w1,i1,e1,r,hr,hn⟩:=hs F (m2.fp.trans hF) ρ w a.eval (hf.fst m2.n) hi he
    cases hn with
    |enter _ _ args' ha=>
     obtain⟨b2,a2,he2,hr2⟩:=enterC_ok hfr ha
     obtain⟨ρ2,w2,v',i2,e2,hv,hend⟩:=hs2 F hF ρ1 w1 b2 a2 (hf.snd e1) i1 (hg.mono e1.le) hr2 (b.atR a (.inRegion ops (i::rest)::k)::cs)
     refine⟨ρ2,w2,v',i2,(e1.wider m2.w).trans e2,hv,?_⟩
     have henter:step P (lone (b.atR a (.inRegion ops (i::rest)::k)) cs w)=.next (lone (Frame.enter P f args' .normal) (b.atR a (.inRegion ops (i::rest)::k)::cs) w1):=
      step_lone_go (by rw[stepGR_op ho hw,Oper.semAt_eq _ _ _ hnd2];simp[stepG.apply,hr,Frame.atR])
     rw[←fin b ops i rest k a v' ho]
     rw[he2]at henter
     exact .head henter (hend.back _ cs rfl)
   ·cases h
  ·rename_i l fn tm sz as bo s2 hop
   obtain⟨m,hs⟩:=opC_ok P hP hop
   obtain⟨m2,hs2⟩:=hcall _ _ _ _ (fun f x e=>by cases e) h
   refine⟨m.trans m2,fun F hF ρ w a hf hi hg he b ops i rest k cs ho hw=>?_⟩
   obtain⟨ρ1,w1,i1,e1,r,hr,hn⟩:=hs F (m2.fp.trans hF) ρ w a.eval (hf.fst m2.n) hi he
   cases hn with
   |round _ l' _ _ _ tmps _ _ hl ht=>
    obtain⟨ρ2,w2,v',i2,e2,hv,hend⟩:=hs2 F hF ρ1 w1 {(default:Frame)with fn:=fn,kind:=.normal,roundOf:=some l'} {tmps:=tmps,defers:=[]} (hf.snd e1) i1 (hg.mono e1.le)
     ⟨rfl,rfl,.inr ⟨l,l',rfl,rfl,hl⟩,ht,trivial⟩ (b.atR a (.inRegion ops (i::rest)::k)::cs)
    refine⟨ρ2,w2,v',i2,(e1.wider m2.w).trans e2,hv,?_⟩
    have henter:step P (lone (b.atR a (.inRegion ops (i::rest)::k)) cs w)=.next (lone (Frame.round l' fn tmps as bo .normal) (b.atR a (.inRegion ops (i::rest)::k)::cs) w1):=
     step_lone_go (by rw[stepGR_op ho hw,Oper.semAt_eq _ _ _ hnd2];simp[stepG.apply,hr,Frame.atR])
    rw[←fin b ops i rest k a v' ho]
    exact .head henter (hend.back _ cs rfl)
  ·cases h
 ·cases h
end Go.Canon
namespace Go.Canon
variable [Ghosts]
def evT(tm:Tree Value):Operand→Value
 |.tmp t=>(tm.get t).getD undef
 |.const v=>v
 |.global g=>.pointer (some ⟨g,0,none⟩)
 |.func f=>.func (.func f) #[] #[]
def okOper(P:Program):Operand→Bool
 |.tmp _=>true
 |.const v=>ground 9 v
 |.global g=>decide (g<P.globals.size)
 |.func _=>true
theorem evT_rel{P:Program}{ρ:Map}(hg:GR P ρ){tm:Tree Value}{a:Act}{x:Operand}(ht: ∀t,x=.tmp t→VRel ρ ((tm.get t).getD undef) (a.tmps.getD t undef))(hx:okOper P x=true):VRel ρ (evT tm x) (a.eval x):=by
 cases x with
 |tmp t=>exact ht t rfl
 |const v=>exact ground_rel 9 v hx ρ
 |global g=>
  have:=hg g (by simpa [okOper]using hx)
  exact .ptr ⟨g,0,none⟩ g (by rw[this];rfl)
 |func f=>exact .func f #[] #[] #[] #[] rfl (fun i h _=>by simp at h) rfl (fun i h _=>by simp at h)
def okOp(P:Program)(o:Oper):Bool:=o.op.operands.toList.all (okOper P)
theorem okOp_mem{P:Program}{o:Oper}(h:okOp P o=true): ∀x∈o.op.operands,okOper P x=true:=by
 intro x hx
 unfold okOp at h
 rw[List.all_eq_true]at h
 exact h x (by simpa using hx)
def yieldedT(ops:Array Oper)(tm:Tree Value)(j:Nat):Option Bool:=
 match((ops[j]?).bind (·.dst)).bind tm.get with
 |some (.bool b)=>some b
 |_=>none
theorem yielded_eq{ρ:Map}{ops:Array Oper}{tm:Tree Value}{tmps:Array Value}{j:Nat}
 (h: ∀t,(ops[j]?).bind (·.dst)=some t→VRel ρ ((tm.get t).getD undef) (tmps.getD t undef)):yielded ops tmps j=yieldedT ops tm j:=by
 unfold yielded yieldedT
 cases ht:(ops[j]?).bind (·.dst)with
 |none=>rfl
 |some t=>
  have hv:=h t ht
  rw[Array.getD_eq_getD_getElem?]at hv
  simp only[Option.bind_some]
  cases h1:tm.get t with
  |none=>
   rw[h1]at hv
   cases h2:tmps[t]? with
   |none=>rfl
   |some v2=>
    rw[h2]at hv
    simp only[Option.getD_none,Option.getD_some]at hv
    unfold undef at hv
    cases hv
    rfl
  |some v1=>
   rw[h1]at hv
   cases h2:tmps[t]? with
   |none=>
    rw[h2]at hv
    simp only[Option.getD_none,Option.getD_some]at hv
    unfold undef at hv
    cases hv with
    |tok _ _ _ _ _ _ h3=>cases h3
    |tuple _ _ _ _=>rfl
   |some v2=>
    rw[h2]at hv
    simp only[Option.getD_some]at hv
    cases hv with
    |tok _ _ _ _ _ _ h3=>cases v2<;>first|rfl|cases h3
    |_=>rfl
theorem wanted_eq{ρ:Map}{ops:Array Oper}{tm:Tree Value}{tmps:Array Value}{o:Oper}
 (h: ∀g w,o.guard=some (g,w)→ ∀t,(ops[g]?).bind (·.dst)=some t→VRel ρ ((tm.get t).getD undef) (tmps.getD t undef)):Region.wanted o (yielded ops tmps)=Region.wanted o (yieldedT ops tm):=by
 unfold Region.wanted
 cases hg:o.guard with
 |none=>rfl
 |some gw=>
  obtain⟨g,w⟩:=gw
  simp only
  rw[yielded_eq (h g w hg)]
def putC(tm:Tree Value)(sz:Nat)(dst:Option Tmp)(v:Value):Option (Tree Value):=
 match dst with
 |some d=>if d<sz∧d+1<2^40 then some (tm.set 40 d v)else none
 |none=>some tm
theorem putC_ok{ρ:Map}{tm tm1:Tree Value}{sz:Nat}{dst:Option Tmp}{v v':Value}{a:Act}(h:putC tm sz dst v=some tm1)(ht:TRel ρ tm sz a.tmps)(hv:VRel ρ v v'):TRel ρ tm1 sz (a.put dst v').tmps:=by
 unfold putC at h
 cases dst with
 |none=>simp only at h;injection h with h;subst h;exact ht
 |some d=>
  simp only at h
  split at h
  ·rename_i hd
   injection h with h
   subst h
   exact ht.put hv hd.1 hd.2
  ·cases h
theorem put_defers(a:Act)(dst:Option Tmp)(v:Value):(a.put dst v).defers=a.defers:=by cases dst<;>rfl
def doOps(P:Program)(call:CF→St→Option (Value×St))(all:Array Oper)(sz:Nat):List Oper→Tree Value→St→Option (Tree Value×St)
 |[],tm,s=>some (tm,s)
 |o::os,tm,s=>
  if Region.wanted o (yieldedT all tm)then
   if okOp P o then match doOp P call (evT tm) o s with
    |some (v,s1)=>match putC tm sz o.dst v with
     |some tm1=>doOps P call all sz os tm1 s1
     |none=>none
    |none=>none
   else none
  else match putC tm sz o.dst undef with
   |some tm1=>doOps P call all sz os tm1 s
   |none=>none
theorem doOps_ok{P:Program}(hP:NG P){call:CF→St→Option (Value×St)}(hcall:RunOkE P call){all:Array Oper}{sz:Nat}:
 ∀(os:List Oper) (i:Nat) (tm tm1:Tree Value) (s s1:St),all.toList.drop i=os→i+os.length=all.size→doOps P call all sz os tm s=some (tm1,s1)→
  Mono s s1∧ ∀F,Fp.Sub s1.fp F→ ∀ρ w a,Fresh ρ s s1→Inv F ρ s w→GR P ρ→TRel ρ tm sz a.tmps→ ∀(b:Frame) (k:List Item) (cs:List Frame),
   ∃ρ1 w1 a1,Inv F ρ1 s1 w1∧Ext s1.w ρ ρ1 s s1 w w1∧TRel ρ1 tm1 sz a1.tmps∧a1.defers=a.defers∧Steps P (lone (b.atR a (.inRegion all (List.range' i os.length)::k)) cs w) (lone (b.atR a1 k) cs w1):=by
 intro os
 induction os with
 |nil=>
  intro i tm tm1 s s1 _ _ h
  simp only[doOps]at h
  injection h with h;injection h with h1 h2
  subst h1 h2
  exact⟨.refl s,fun F _ ρ w a _ hi _ ht b k cs=>⟨ρ,w,a,hi,.refl _ _ _ _,ht,rfl,.one stepR_region_end⟩⟩
 |cons o os ih=>
  intro i tm tm1 s s1 hdrop hlen h
  simp only[List.length_cons]at hlen
  have ho:all[i]?=some o:=by
   have:=congrArg (fun l=>l[0]?) hdrop
   simpa using this
  have hdrop2:all.toList.drop (i+1)=os:=by
   have:=congrArg List.tail hdrop
   simpa using this
  simp only[doOps]at h
  split at h
  ·rename_i hw
   split at h
   ·rename_i hok
    split at h
    ·rename_i v s2 hop
     split at h
     ·rename_i tm2 hput
      obtain⟨m1,h1⟩:=doOp_ok hP hcall hop
      obtain⟨m2,h2⟩:=ih (i+1) tm2 tm1 s2 s1 hdrop2 (by omega) h
      refine⟨m1.trans m2,fun F hF ρ w a hf hi hg ht b k cs=>?_⟩
      obtain⟨ρ1,w1,v',i1,e1,hv,hd⟩:=h1 F (m2.fp.trans hF) ρ w a (hf.fst m2.n) hi hg (fun x hx=>evT_rel hg (fun t _=>ht.2 t) (okOp_mem hok x hx)) b all i (List.range' (i+1) os.length) k cs ho (by rw[wanted_eq (fun g w _ t _=>ht.2 t)];exact hw)
      obtain⟨ρ2,w2,a2,i2,e2,ht2,hdf,hst⟩:=h2 F hF ρ1 w1 (a.put o.dst v') (hf.snd e1) i1 (hg.mono e1.le) (putC_ok hput (ht.mono e1.le) hv) b k cs
      refine⟨ρ2,w2,a2,i2,(e1.wider m2.w).trans e2,ht2,hdf.trans (put_defers _ _ _),?_⟩
      rw[List.length_cons,List.range'_succ]
      exact hd.trans hst
     ·cases h
    ·cases h
   ·cases h
  ·rename_i hw
   split at h
   ·rename_i tm2 hput
    obtain⟨m2,h2⟩:=ih (i+1) tm2 tm1 s s1 hdrop2 (by omega) h
    refine⟨m2,fun F hF ρ w a hf hi hg ht b k cs=>?_⟩
    obtain⟨ρ2,w2,a2,i2,e2,ht2,hdf,hst⟩:=h2 F hF ρ w (a.put o.dst undef) hf hi hg (putC_ok hput ht (undef_rel ρ)) b k cs
    refine⟨ρ2,w2,a2,i2,e2,ht2,hdf.trans (put_defers _ _ _),?_⟩
    rw[List.length_cons,List.range'_succ]
    have hs:=stepR_op_skip (P:=P) (b:=b) (a:=a) (k:=k) (cs:=cs) (w:=w) (ops:=all) (i:=i) (rest:=List.range' (i+1) os.length) (by
     rw[ho,Option.map_some,Option.getD_some,wanted_eq (fun g w _ t _=>ht.2 t)]
     simpa using hw)
    rw[ho]at hs
    exact .head hs hst
   ·cases h
end Go.Canon
namespace Go.Canon
def mask(acc:List Nat)(o:Oper):Nat:=o.after.toList.foldl (fun m e=>if Region.binds .any e then m|||2^e.on|||acc.getD e.on 0 else m) 0
def befL:List Nat→List Oper→List Nat
 |acc,[]=>acc
 |acc,o::os=>befL (acc++[mask acc o]) os
theorem mask_bit_from(acc:List Nat)(i:Nat): ∀(l:List Edge) (m:Nat),(l.foldl (fun m e=>if Region.binds .any e then m|||2^e.on|||acc.getD e.on 0 else m) m).testBit i=true→
 m.testBit i=true∨ ∃e∈l,Region.binds .any e=true∧(e.on=i∨(acc.getD e.on 0).testBit i=true):=by
 intro l
 induction l with
 |nil=>intro m h;exact .inl h
 |cons e l ih=>
  intro m h
  rw[List.foldl_cons]at h
  rcases ih _ h with h1|⟨e',h1,h2⟩
  ·split at h1
   ·rename_i hb
    rw[Nat.testBit_or,Nat.testBit_or,Bool.or_eq_true,Bool.or_eq_true]at h1
    rcases h1 with(h1|h1)|h1
    ·exact .inl h1
    ·refine .inr ⟨e,by simp,hb,.inl ?_⟩
     rw[Nat.testBit_two_pow]at h1
     simpa using h1
    ·exact .inr ⟨e,by simp,hb,.inr h1⟩
   ·exact .inl h1
  ·exact .inr ⟨e',by simp[h1],h2⟩
theorem mask_bit{acc:List Nat}{o:Oper}{i:Nat}(h:(mask acc o).testBit i=true): ∃e∈o.after.toList,Region.binds .any e=true∧(e.on=i∨(acc.getD e.on 0).testBit i=true):=by
 rcases mask_bit_from acc i _ 0 h with h1|h1
 ·simp at h1
 ·exact h1
theorem befL_prefix: ∀(os:List Oper) (acc:List Nat) (k:Nat),k<acc.length→(befL acc os).getD k 0=acc.getD k 0
 |[],_,_,_=>rfl
 |o::os,acc,k,h=>by
  rw[befL,befL_prefix os _ k (by simp;omega),List.getD_eq_getElem?_getD,List.getD_eq_getElem?_getD,List.getElem?_append_left h]
theorem befL_bit: ∀(os:List Oper) (acc:List Nat) (j:Nat) (o:Oper),os[j]?=some o→ ∀i,((befL acc os).getD (acc.length+j) 0).testBit i=true→
 ∃e∈o.after.toList,Region.binds .any e=true∧(e.on=i∨((befL acc os).getD e.on 0).testBit i=true)
 |[],_,_,_,h,_,_=>by simp at h
 |o::os,acc,0,o',h,i,hb=>by
  simp only[List.getElem?_cons_zero,Option.some.injEq]at h
  subst h
  rw[befL,befL_prefix os _ _ (by simp),List.getD_eq_getElem?_getD,List.getElem?_append_right (by simp)]at hb
  simp only[Nat.add_zero,Nat.sub_self,List.getElem?_cons_zero,Option.getD_some]at hb
  obtain⟨e,h1,h2,h3⟩:=mask_bit hb
  refine⟨e,h1,h2,h3.imp id (fun h4=>?_)⟩
  by_cases hlt:e.on<acc.length
  ·rw[befL,befL_prefix os _ _ (by simp;omega),List.getD_eq_getElem?_getD,List.getElem?_append_left hlt,←List.getD_eq_getElem?_getD]
   exact h4
  ·rw[List.getD_eq_getElem?_getD,List.getElem?_eq_none (by omega)]at h4
   simp at h4
 |o::os,acc,j+1,o',h,i,hb=>by
  simp only[List.getElem?_cons_succ]at h
  rw[befL]at hb⊢
  refine befL_bit os (acc++[mask acc o]) j o' h i ?_
  rw[List.length_append,List.length_singleton,Nat.add_assoc,Nat.add_comm 1 j]
  exact hb
def bef(ops:Array Oper):List Nat:=befL [] ops.toList
def backB(ops:Array Oper):Bool:=ops.toList.zipIdx.all fun(o,j)=>o.after.toList.all fun e=> !Region.binds .any e||decide (e.on<j)
theorem backB_spec{ops:Array Oper}(h:backB ops=true){j:Nat}{o:Oper}(ho:ops[j]?=some o){e:Edge}(he:e∈o.after.toList)(hb:Region.binds .any e=true):e.on<j:=by
 unfold backB at h
 rw[List.all_eq_true]at h
 have hm:(o,j)∈ops.toList.zipIdx:=by
  rw[List.mem_zipIdx_iff_getElem?]
  simpa using ho
 have h1:=h _ hm
 simp only at h1
 rw[List.all_eq_true]at h1
 have h2:=h1 e he
 rw[hb]at h2
 simpa using h2
def Closed(ops:Array Oper)(D:Nat→Bool):Prop:= ∀j o,ops[j]?=some o→D j=true→ ∀e∈o.after.toList,Region.binds .any e=true→D e.on=true
theorem Closed.prior{ops:Array Oper}{D:Nat→Bool}(hb:backB ops=true)(h:Closed ops D): ∀(j:Nat),j<ops.size→D j=true→ ∀i,((bef ops).getD j 0).testBit i=true→D i=true:=by
 intro j
 induction j using Nat.strongRecOn with
 |_ j ih=>
  intro hj hD i hi
  have ho:ops[j]?=some ops[j]:=Array.getElem?_eq_getElem hj
  have hi':((befL [] ops.toList).getD (([]:List Nat).length+j) 0).testBit i=true:=by simpa [bef]using hi
  obtain⟨e,h1,h2,h3⟩:=befL_bit ops.toList [] j ops[j] (by simp) i hi'
  have hD2:=h j _ ho hD e h1 h2
  rcases h3 with h3|h3
  ·exact h3▸hD2
  ·have hlt:=backB_spec hb ho h1 h2
   exact ih e.on hlt (by omega) hD2 i (by simpa [bef]using h3)
theorem Closed.prior_ready{ops:Array Oper}{D:Nat→Bool}(hb:backB ops=true)(h:Closed ops D){j:Nat}{o:Oper}(ho:ops[j]?=some o)(hr: ∀e∈o.after.toList,Region.binds .any e=true→D e.on=true):
 ∀i,((bef ops).getD j 0).testBit i=true→D i=true:=by
 intro i hi
 have hi':((befL [] ops.toList).getD (([]:List Nat).length+j) 0).testBit i=true:=by simpa [bef]using hi
 obtain⟨e,h1,h2,h3⟩:=befL_bit ops.toList [] j o (by simpa using ho) i hi'
 have hD2:=hr e h1 h2
 rcases h3 with h3|h3
 ·exact h3▸hD2
 ·have hlt:=backB_spec hb ho h1 h2
  have hj:j<ops.size:=(Array.getElem?_eq_some_iff.1 ho).1
  exact h.prior hb e.on (by omega) hD2 i (by simpa [bef]using h3)
inductive Val (ops:Array Oper):(Nat→Bool)→List Nat→Prop
 |done (D:Nat→Bool):(∀i,i<ops.size→D i=true)→Val ops D []
 |next (D:Nat→Bool) (j:Nat) (o:Oper) (l:List Nat):ops[j]?=some o→D j=false→(∀e∈o.after.toList,Region.binds .any e=true→D e.on=true)→Val ops (fun i=>i==j||D i) l→Val ops D (j::l)
def listedD(listed:Array Bool):Nat→Bool:=fun i=>listed.getD i true
theorem val_go{ops:Array Oper}(hb:backB ops=true): ∀(fuel t:Nat) (listed:Array Bool),listed.size=ops.size→(∀x:Nat→Bool,(∀i,x i=listedD listed i)→((List.range ops.size).filter fun i=> !x i).length≤fuel)→
 Val ops (listedD listed) (Region.linearise.go .any ops fuel t listed []):=by
 intro fuel
 induction fuel with
 |zero=>
  intro t listed hs hf
  simp only[Region.linearise.go,List.reverse_nil]
  refine .done _ fun i hi=>?_
  have:=hf (listedD listed) (fun _=>rfl)
  have h0:(List.range ops.size).filter (fun i=> !listedD listed i)=[]:=List.eq_nil_of_length_eq_zero (by omega)
  rw[List.filter_eq_nil_iff]at h0
  have:=h0 i (by simpa using hi)
  simpa using this
 |succ fuel ih=>
  intro t listed hs hf
  simp only[Region.linearise.go]
  change Val ops (listedD listed) (match(Region.ready .any ops listed)[t%(Region.ready .any ops listed).length]? with
   |some i=>Region.linearise.go .any ops fuel (t/(Region.ready .any ops listed).length) (listed.setIfInBounds i true) [i]
   |none=>[].reverse)
  cases hi:(Region.ready .any ops listed)[t%(Region.ready .any ops listed).length]? with
  |none=>
   have hnil:Region.ready .any ops listed=[]:=by
    cases hr:Region.ready .any ops listed with
    |nil=>rfl
    |cons x xs=>
     rw[hr]at hi
     have hlt:t%(x::xs).length<(x::xs).length:=Nat.mod_lt _ (by simp)
     simp at hi
     simp at hlt
     omega
   refine .done _ ?_
   intro i
   induction i using Nat.strongRecOn with
   |_ i ihi=>
    intro hlt
    apply Classical.byContradiction
    intro hno
    have hD:listed.getD i true=false:=by
     have:listedD listed i≠true:=hno
     simpa [listedD]using this
    have hmem:i∈Region.ready .any ops listed:=by
     unfold Region.ready
     rw[List.mem_filter]
     refine⟨by simpa using hlt,?_⟩
     have ho:ops[i]?=some ops[i]:=Array.getElem?_eq_getElem hlt
     rw[hD,ho]
     simp only[Bool.not_false,Bool.true_and,Option.map_some,Option.getD_some]
     rw[Array.all_eq_true']
     intro e he
     cases hbe:Region.binds .any e with
     |false=>rfl
     |true=>
      have hlt2:=backB_spec hb ho (by simpa using he) hbe
      have h1:=ihi e.on hlt2 (by omega)
      simp only[listedD]at h1
      simp only[Bool.not_true,Bool.false_or]
      rw[Array.getD_eq_getD_getElem?,Array.getElem?_eq_getElem (by omega)]at h1⊢
      simpa using h1
    rw[hnil]at hmem
    cases hmem
  |some j=>
   simp only[]
   rw[linearise_go_acc,List.reverse_singleton,List.singleton_append]
   have hmem:j∈Region.ready .any ops listed:=List.mem_of_getElem? hi
   unfold Region.ready at hmem
   rw[List.mem_filter]at hmem
   obtain⟨hj,hr⟩:=hmem
   rw[Bool.and_eq_true]at hr
   have hjn:j<ops.size:=by simpa using hj
   have ho:ops[j]?=some ops[j]:=Array.getElem?_eq_getElem hjn
   have hDj:listedD listed j=false:=by simpa [listedD]using hr.1
   have e2: ∀i,listedD (listed.setIfInBounds j true) i=(i==j||listedD listed i):=by
    intro i
    simp only[listedD,Array.getD_eq_getD_getElem?,Array.getElem?_setIfInBounds]
    by_cases h1:j=i
    ·subst h1;simp[hs,hjn]
    ·rw[if_neg h1]
     have:(i==j)=false:=by simp;exact fun h=>h1 h.symm
     rw[this,Bool.false_or]
   refine .next _ j ops[j] _ ho hDj ?_ ?_
   ·intro e he hbe
    have h2:=hr.2
    rw[ho]at h2
    simp only[Option.map_some,Option.getD_some]at h2
    rw[Array.all_eq_true']at h2
    have h3:=h2 e (by simpa using he)
    rw[hbe]at h3
    simp only[Bool.not_true,Bool.false_or]at h3
    have hlt2:=backB_spec hb ho he hbe
    simp only[listedD]
    rw[Array.getD_eq_getD_getElem?,Array.getElem?_eq_getElem (by omega)]at h3⊢
    simpa using h3
   ·have h4:=ih (t/(Region.ready .any ops listed).length) (listed.setIfInBounds j true) (by simpa using hs) (by
     intro x hx
     have h5:=hf (listedD listed) (fun _=>rfl)
     have h6:((List.range ops.size).filter fun i=> !x i).length<((List.range ops.size).filter fun i=> !listedD listed i).length:=by
      have hsub:((List.range ops.size).filter fun i=> !x i)=(((List.range ops.size).filter fun i=> !listedD listed i).filter fun i=>i !=j):=by
       rw[List.filter_filter]
       congr 1
       funext i
       rw[hx i,e2 i]
       cases h7:(i==j)<;>cases h8:listedD listed i<;>simp_all
      rw[hsub]
      refine List.length_filter_lt_length_iff_exists.2 ⟨j,?_,?_⟩
      ·rw[List.mem_filter];exact⟨by simpa using hjn,by simp[hDj]⟩
      ·simp
     omega)
    have e3:listedD (listed.setIfInBounds j true)=fun i=>i==j||listedD listed i:=funext e2
    rw[e3]at h4
    exact h4
theorem val_schedule{ops:Array Oper}(hb:backB ops=true)(t:Nat):Val ops (fun i=>decide (ops.size≤i)) (Region.schedule true ops t):=by
 have h:=val_go hb ops.size t (Array.replicate ops.size false) (by simp) (fun x _=>by
  have:=List.length_filter_le (fun i=> !x i) (List.range ops.size)
  simpa using this)
 have e:listedD (Array.replicate ops.size false)=fun i=>decide (ops.size≤i):=by
  funext i
  simp only[listedD,Array.getD_eq_getD_getElem?,Array.getElem?_replicate]
  by_cases hi:i<ops.size
  ·simp[hi]
  ·simp[hi];omega
 rw[e]at h
 simpa [Region.schedule,Region.linearise]using h
end Go.Canon
namespace Go.Canon
variable [Ghosts]
structure Ent where
 tm:Tree Value
 s:St
 r:Nat
 w:Nat
def St.zero(s:St):St:={s with r:=0,w:=0}
def St.plus(s1 s:St):St:={s1 with r:=s.r|||s1.r,w:=s.w|||s1.w}
def doOpsD(P:Program)(call:CF→St→Option (Value×St))(all:Array Oper)(sz:Nat):List Oper→Tree Value→St→Option (List Ent×Tree Value×St)
 |[],tm,s=>some ([],tm,s)
 |o::os,tm,s=>
  if Region.wanted o (yieldedT all tm)then
   if okOp P o then match doOp P call (evT tm) o s.zero with
    |some (v,s1)=>match putC tm sz o.dst v with
     |some tm1=>match doOpsD P call all sz os tm1 (s1.plus s)with
      |some (l,tmE,sE)=>some (⟨tm,s,s1.r,s1.w⟩::l,tmE,sE)
      |none=>none
     |none=>none
    |none=>none
   else none
  else match putC tm sz o.dst undef with
   |some tm1=>match doOpsD P call all sz os tm1 s with
    |some (l,tmE,sE)=>some (⟨tm,s,0,0⟩::l,tmE,sE)
    |none=>none
   |none=>none
def tmF(l:List Ent)(tmE:Tree Value)(i:Nat):Tree Value:=match l[i]? with|some e=>e.tm|none=>tmE
def sF(l:List Ent)(sE:St)(i:Nat):St:=match l[i]? with|some e=>e.s|none=>sE
def rF(l:List Ent)(i:Nat):Nat:=match l[i]? with|some e=>e.r|none=>0
def wF(l:List Ent)(i:Nat):Nat:=match l[i]? with|some e=>e.w|none=>0
def StepAt(P:Program)(call:CF→St→Option (Value×St))(all:Array Oper)(sz:Nat)(o:Oper)(l:List Ent)(tmE:Tree Value)(sE:St)(i:Nat):Prop:=
 (Region.wanted o (yieldedT all (tmF l tmE i))=true∧okOp P o=true∧ ∃v s1,doOp P call (evT (tmF l tmE i)) o (sF l sE i).zero=some (v,s1)∧putC (tmF l tmE i) sz o.dst v=some (tmF l tmE (i+1))∧sF l sE (i+1)=s1.plus (sF l sE i)∧rF l i=s1.r∧wF l i=s1.w)∨
 (Region.wanted o (yieldedT all (tmF l tmE i))=false∧putC (tmF l tmE i) sz o.dst undef=some (tmF l tmE (i+1))∧sF l sE (i+1)=sF l sE i∧rF l i=0∧wF l i=0)
theorem doOpsD_steps{P:Program}{call:CF→St→Option (Value×St)}{all:Array Oper}{sz:Nat}: ∀(os:List Oper) (tm:Tree Value) (s:St) (l:List Ent) (tmE:Tree Value) (sE:St),doOpsD P call all sz os tm s=some (l,tmE,sE)→
 l.length=os.length∧tmF l tmE 0=tm∧sF l sE 0=s∧ ∀i o,os[i]?=some o→StepAt P call all sz o l tmE sE i:=by
 intro os
 induction os with
 |nil=>
  intro tm s l tmE sE h
  simp only[doOpsD]at h
  injection h with h;injection h with h1 h2;injection h2 with h2 h3
  subst h1 h2 h3
  exact⟨rfl,rfl,rfl,fun i o ho=>by simp at ho⟩
 |cons o os ih=>
  intro tm s l tmE sE h
  simp only[doOpsD]at h
  split at h
  ·rename_i hw
   split at h
   ·rename_i hok
    split at h
    ·rename_i v s1 hop
     split at h
     ·rename_i tm1 hput
      split at h
      ·rename_i l2 tmE2 sE2 hrest
       injection h with h;injection h with h1 h2;injection h2 with h2 h3
       subst h1 h2 h3
       obtain⟨k1,k2,k3,k4⟩:=ih _ _ _ _ _ hrest
       refine⟨by simp[k1],rfl,rfl,fun i o' ho=>?_⟩
       cases i with
       |zero=>
        simp only[List.getElem?_cons_zero,Option.some.injEq]at ho
        subst ho
        refine .inl ⟨hw,hok,v,s1,hop,?_,?_,rfl,rfl⟩
        ·show putC tm sz o.dst v=some (tmF l2 tmE2 0)
         rw[k2];exact hput
        ·show sF l2 sE2 0=_
         rw[k3];rfl
       |succ i=>exact k4 i o' (by simpa using ho)
      ·cases h
     ·cases h
    ·cases h
   ·cases h
  ·rename_i hw
   split at h
   ·rename_i tm1 hput
    split at h
    ·rename_i l2 tmE2 sE2 hrest
     injection h with h;injection h with h1 h2;injection h2 with h2 h3
     subst h1 h2 h3
     obtain⟨k1,k2,k3,k4⟩:=ih _ _ _ _ _ hrest
     refine⟨by simp[k1],rfl,rfl,fun i o' ho=>?_⟩
     cases i with
     |zero=>
      simp only[List.getElem?_cons_zero,Option.some.injEq]at ho
      subst ho
      refine .inr ⟨(Bool.not_eq_true _).mp hw,?_,?_,rfl,rfl⟩
      ·show putC tm sz o.dst undef=some (tmF l2 tmE2 0)
       rw[k2];exact hput
      ·show sF l2 sE2 0=_
       rw[k3];rfl
     |succ i=>exact k4 i o' (by simpa using ho)
    ·cases h
   ·cases h
def confB(bj rj wj:Nat):Nat→List Ent→Bool
 |_,[]=>true
 |i,e::l=>(bj.testBit i||((Nat.land e.w (rj|||wj)==0)&&(Nat.land wj e.r==0)))&&confB bj rj wj (i+1) l
def confAll(bs:List Nat)(pre:List Ent):List Ent→Bool
 |[]=>true
 |e::l=>((e.r==0&&e.w==0)||confB (bs.headD 0) e.r e.w 0 pre)&&confAll bs.tail (pre++[e]) l
def apartB(ops:Array Oper)(bs:List Nat):Bool:=
 ops.toList.zipIdx.all fun(o,j)=>(ops.toList.take j).zipIdx.all fun(p,i)=>(bs.getD j 0).testBit i||p.apart ops o
theorem land_zero{a b:Nat}(h:Nat.land a b=0)(i:Nat)(ha:a.testBit i=true)(hb:b.testBit i=true):False:=by
 have:(a&&&b).testBit i=true:=by rw[Nat.testBit_and,ha,hb];rfl
 rw[show a&&&b=Nat.land a b from rfl,h]at this
 simp at this
theorem confB_spec{bj rj wj:Nat}: ∀(l:List Ent) (i0:Nat),confB bj rj wj i0 l=true→ ∀i e,l[i]?=some e→bj.testBit (i0+i)=true∨((∀b,e.w.testBit b=true→rj.testBit b=true∨wj.testBit b=true→False)∧ ∀b,wj.testBit b=true→e.r.testBit b=true→False)
 |[],_,_,_,_,h=>by simp at h
 |e::l,i0,h,0,e',he=>by
  simp only[List.getElem?_cons_zero,Option.some.injEq]at he
  subst he
  simp only[confB,Bool.and_eq_true,Bool.or_eq_true,beq_iff_eq]at h
  rcases h.1 with h1|⟨h1,h2⟩
  ·exact .inl h1
  ·refine .inr ⟨fun b h3 h4=>land_zero h1 b h3 ?_,fun b h3 h4=>land_zero h2 b h3 h4⟩
   rw[Nat.testBit_or]
   rcases h4 with h4|h4<;>simp[h4]
 |e::l,i0,h,i+1,e',he=>by
  simp only[List.getElem?_cons_succ]at he
  simp only[confB,Bool.and_eq_true]at h
  have:=confB_spec l (i0+1) h.2 i e' he
  rwa [show i0+1+i=i0+(i+1)by omega]at this
theorem confAll_spec: ∀(l:List Ent) (bs:List Nat) (pre:List Ent),confAll bs pre l=true→ ∀j ej i ei,l[j]?=some ej→(pre++l)[i]?=some ei→i<pre.length+j→
 (bs.getD j 0).testBit i=true∨((∀b,ei.w.testBit b=true→ej.r.testBit b=true∨ej.w.testBit b=true→False)∧ ∀b,ej.w.testBit b=true→ei.r.testBit b=true→False)
 |[],_,_,_,_,_,_,_,h,_,_=>by simp at h
 |e::l,bs,pre,h,0,ej,i,ei,hj,hi,hlt=>by
  simp only[List.getElem?_cons_zero,Option.some.injEq]at hj
  subst hj
  simp only[confAll,Bool.and_eq_true,Bool.or_eq_true,beq_iff_eq]at h
  rcases h.1 with⟨h1,h2⟩|h1
  ·refine .inr ⟨fun b _ h4=>?_,fun b h3 _=>?_⟩
   ·rw[h1,h2]at h4;simp at h4
   ·rw[h2]at h3;simp at h3
  ·rw[List.getElem?_append_left (by omega)]at hi
   have:=confB_spec pre 0 h1 i ei hi
   rw[Nat.zero_add]at this
   have e1:bs.getD 0 0=bs.headD 0:=by cases bs<;>rfl
   rw[e1]
   exact this
 |e::l,bs,pre,h,j+1,ej,i,ei,hj,hi,hlt=>by
  simp only[List.getElem?_cons_succ]at hj
  simp only[confAll,Bool.and_eq_true]at h
  have:=confAll_spec l bs.tail (pre++[e]) h.2 j ej i ei hj (by simpa using hi) (by simp;omega)
  have e1:bs.tail.getD j 0=bs.getD (j+1) 0:=by cases bs<;>simp
  rwa [e1]at this
theorem apartB_spec{ops:Array Oper}{bs:List Nat}(h:apartB ops bs=true){i j:Nat}{p o:Oper}(hi:ops[i]?=some p)(hj:ops[j]?=some o)(hlt:i<j):(bs.getD j 0).testBit i=true∨p.apart ops o=true:=by
 unfold apartB at h
 rw[List.all_eq_true]at h
 have hm:(o,j)∈ops.toList.zipIdx:=by rw[List.mem_zipIdx_iff_getElem?];simpa using hj
 have h1:=h _ hm
 simp only at h1
 rw[List.all_eq_true]at h1
 have hm2:(p,i)∈(ops.toList.take j).zipIdx:=by
  rw[List.mem_zipIdx_iff_getElem?]
  rw[List.getElem?_take,if_pos hlt]
  simpa using hi
 have h2:=h1 _ hm2
 simpa using h2
def Ord(ops:Array Oper)(i j:Nat):Prop:=(i<j∧((bef ops).getD j 0).testBit i=true)∨(j<i∧((bef ops).getD i 0).testBit j=true)
def okRegion(ops:Array Oper):Bool:=backB ops&&apartB ops (bef ops)
theorem conf_ord{ops:Array Oper}{l:List Ent}(hc:confAll (bef ops) [] l=true){i j:Nat}(hi:i<l.length)(hj:j<l.length)(hne:i≠j){b:Nat}(hw:(wF l i).testBit b=true)(hr:(rF l j).testBit b=true∨(wF l j).testBit b=true):Ord ops i j:=by
 have hei:l[i]?=some l[i]:=List.getElem?_eq_getElem hi
 have hej:l[j]?=some l[j]:=List.getElem?_eq_getElem hj
 have w1:wF l i=l[i].w:=by simp[wF,hei]
 have w2:wF l j=l[j].w:=by simp[wF,hej]
 have r2:rF l j=l[j].r:=by simp[rF,hej]
 rw[w1]at hw
 rw[w2,r2]at hr
 rcases Nat.lt_or_gt_of_ne hne with hlt|hlt
 ·rcases confAll_spec l _ [] hc j l[j] i l[i] hej (by simp[hei]) (by simpa using hlt)with h1|⟨h1,_⟩
  ·exact .inl ⟨hlt,h1⟩
  ·exact(h1 b hw hr).elim
 ·rcases confAll_spec l _ [] hc i l[i] j l[j] hei (by simp[hej]) (by simpa using hlt)with h1|⟨h1,h2⟩
  ·exact .inr ⟨hlt,h1⟩
  ·rcases hr with hr|hr
   ·exact(h2 b hw hr).elim
   ·exact(h1 b hr (.inr hw)).elim
theorem apart_ord{ops:Array Oper}(ha:apartB ops (bef ops)=true){i j:Nat}{p o:Oper}(hi:ops[i]?=some p)(hj:ops[j]?=some o)(hne:i≠j){d:Tmp}(hd:p.dst=some d)(hl:d∈o.looksAt ops∨o.dst=some d):Ord ops i j:=by
 rcases Nat.lt_or_gt_of_ne hne with hlt|hlt
 ·rcases apartB_spec ha hi hj hlt with h1|h1
  ·exact .inl ⟨hlt,h1⟩
  ·obtain⟨a1,a2,_⟩:=Oper.apart_spec h1
   rcases hl with hl|hl
   ·exact(a1 d hd hl).elim
   ·exact(a2 d hd hl).elim
 ·rcases apartB_spec ha hj hi hlt with h1|h1
  ·exact .inr ⟨hlt,h1⟩
  ·obtain⟨a1,a2,a3⟩:=Oper.apart_spec h1
   rcases hl with hl|hl
   ·exact(a3 d hd hl).elim
   ·exact(a2 d hl hd).elim
end Go.Canon
namespace Go.Canon
variable [Ghosts]
theorem Ext.insert{W V:Nat}{ρ0 ρ ρ1:Map}{s0 sE sj s1:St}{w0 w w1:World}(h:Ext W ρ0 ρ s0 sE w0 w)(k:Ext V ρ ρ1 sj s1 w w1)(h1:s0.n≤sj.n)(h2:s1.n≤sE.n)(hs:Sub V W):Ext W ρ0 ρ1 s0 sE w0 w1:=by
 have old: ∀b c,b<sj.n→(ρ1 b).tgt=some c→(ρ b).tgt=some c:=by
  intro b c hb e
  rcases k.old b hb with h1|⟨h1,h2⟩
  ·exact h1▸e
  ·rw[h2]at e;cases e
 have old0: ∀b c,b<s0.n→(ρ b).tgt=some c→(ρ0 b).tgt=some c:=by
  intro b c hb e
  rcases h.old b hb with h1|⟨h1,h2⟩
  ·exact h1▸e
  ·rw[h2]at e;cases e
 refine⟨h.le.trans k.le,h.n,h.get,?_,?_,?_,?_,Nat.le_trans h.size k.size,?_,k.os.trans h.os,k.output.trans h.output,k.tape.trans h.tape,fun g=>(h.u g).trans (k.u g)⟩
 ·intro b hb hw;exact(k.same b (Nat.lt_of_lt_of_le hb h1) (hs.false hw)).trans (h.same b hb hw)
 ·intro b hb;exact(k.far b (Nat.le_trans h2 hb)).trans (h.far b hb)
 ·intro b hb
  rcases h.old b hb with h1'|⟨h1',h2'⟩
  ·rcases k.old b (Nat.lt_of_lt_of_le hb h1)with k1|⟨k1,k2⟩
   ·exact .inl (k1.trans h1')
   ·exact .inr ⟨h1'▸k1,k2⟩
  ·rcases k.old b (Nat.lt_of_lt_of_le hb h1)with k1|⟨k1,k2⟩
   ·exact .inr ⟨h1',k1.trans h2'⟩
   ·exact .inr ⟨h1',k2⟩
 ·intro c hc hno
  refine(k.heap c (Nat.lt_of_lt_of_le hc h.size) ?_).trans (h.heap c hc hno)
  intro b hb hw e
  by_cases hbn:b<s0.n
  ·exact hno b hbn (hs b hw) (old0 b c hbn e)
  ·have hbE:b<sE.n:=by have:=k.n;omega
   rcases h.new b c (by omega) hbE e with h3|⟨b0,k1,k2,k3⟩
   ·omega
   ·exact hno b0 k1 k2 k3
 ·intro b c h3 h4 h5
  by_cases hb:b<sj.n
  ·exact h.new b c h3 h4 (old b c hb h5)
  ·by_cases hb1:b<s1.n
   ·rcases k.new b c (by omega) hb1 h5 with h6|⟨b0,k1,k2,k3⟩
    ·exact .inl (Nat.le_trans h.size h6)
    ·by_cases hb0:b0<s0.n
     ·exact .inr ⟨b0,hb0,hs b0 k2,old0 b0 c hb0 k3⟩
     ·exact h.new b0 c (by omega) (by have:=k.n;omega) k3
   ·rw[k.far b (by omega)]at h5
    exact h.new b c h3 h4 h5
section
variable {P:Program} {call:CF→St→Option (Value×St)} {all:Array Oper} {sz:Nat} {l:List Ent} {tmE:Tree Value} {sE:St}
structure OneOp(l:List Ent)(sE:St)(i:Nat):Prop where
 mono:Mono (sF l sE i) (sF l sE (i+1))
 r:Sub (rF l i) (sF l sE (i+1)).r
 w:Sub (wF l i) (sF l sE (i+1)).w
 get: ∀b,b<(sF l sE i).n→(wF l i).testBit b=false→(sF l sE (i+1)).t.get b=(sF l sE i).t.get b
 nw: ∀b,(sF l sE i).n≤b→b<(sF l sE (i+1)).n→(wF l i).testBit b=true
theorem oneOp(hP:NG P)(hcall:RunOkE P call){o:Oper}{i:Nat}(h:StepAt P call all sz o l tmE sE i):OneOp l sE i:=by
 rcases h with⟨_,_,v,s1,hop,_,hs,hr,hw⟩|⟨_,_,hs,hr,hw⟩
 ·obtain⟨m,_⟩:=doOp_ok hP hcall hop
  have mp:Mono (sF l sE i) (s1.plus (sF l sE i)):={
   r:=Sub.orl _ _
   w:=Sub.orl _ _
   n:=m.n
   get:=fun b h1 h2=>m.get b h1 (by
    simp only[St.plus,Nat.testBit_or,Bool.or_eq_false_iff]at h2;exact h2.2)
   nw:=fun b h1 h2=>by
    have:=m.nw b h1 h2
    simp only[St.plus,Nat.testBit_or,this,Bool.or_true]
   good:=fun x=>m.good x}
  refine⟨hs▸mp,?_,?_,?_,?_⟩
  ·rw[hr,hs];exact Sub.orr _ _
  ·rw[hw,hs];exact Sub.orr _ _
  ·intro b h1 h2
   rw[hw]at h2
   rw[hs]
   exact m.get b h1 h2
  ·intro b h1 h2
   rw[hs]at h2
   rw[hw]
   exact m.nw b h1 h2
 ·refine⟨hs▸.refl _,?_,?_,?_,?_⟩
  ·rw[hr];intro i h;simp at h
  ·rw[hw];intro i h;simp at h
  ·intro b _ _;rw[hs]
  ·intro b h1 h2;rw[hs]at h2;omega
theorem mono_chain(ho: ∀i,i<all.size→OneOp l sE i): ∀(d i:Nat),i+d≤all.size→Mono (sF l sE i) (sF l sE (i+d)):=by
 intro d
 induction d with
 |zero=>intro i _;exact .refl _
 |succ d ih=>intro i h;exact(ih i (by omega)).trans (ho (i+d) (by omega)).mono
theorem mono_le(ho: ∀i,i<all.size→OneOp l sE i){i j:Nat}(h:i≤j)(hj:j≤all.size):Mono (sF l sE i) (sF l sE j):=by
 have:=mono_chain ho (j-i) i (by omega)
 rwa [show i+(j-i)=j by omega]at this
theorem get_chain(ho: ∀i,i<all.size→OneOp l sE i){b:Nat}: ∀(d i:Nat),i+d≤all.size→(∀k,i≤k→k<i+d→(wF l k).testBit b=false)→b<(sF l sE i).n→(sF l sE (i+d)).t.get b=(sF l sE i).t.get b:=by
 intro d
 induction d with
 |zero=>intro i _ _ _;rfl
 |succ d ih=>
  intro i h hno hb
  have h1:=ih i (by omega) (fun k h1 h2=>hno k h1 (by omega)) hb
  refine((ho (i+d) (by omega)).get b ?_ (hno _ (by omega) (by omega))).trans h1
  exact Nat.lt_of_lt_of_le hb (mono_chain ho d i (by omega)).n
theorem get_le(ho: ∀i,i<all.size→OneOp l sE i){b i j:Nat}(h:i≤j)(hj:j≤all.size)(hno: ∀k,i≤k→k<j→(wF l k).testBit b=false)(hb:b<(sF l sE i).n):(sF l sE j).t.get b=(sF l sE i).t.get b:=by
 have:=get_chain ho (b:=b) (j-i) i (by omega) (fun k h1 h2=>hno k h1 (by omega)) hb
 rwa [show i+(j-i)=j by omega]at this
theorem made(ho: ∀i,i<all.size→OneOp l sE i){b:Nat}: ∀(d i:Nat),i+d≤all.size→(sF l sE i).n≤b→b<(sF l sE (i+d)).n→ ∃k,i≤k∧k<i+d∧(wF l k).testBit b=true:=by
 intro d
 induction d with
 |zero=>intro i _ h1 h2;exact absurd h1 (by simp only[Nat.add_zero]at h2;omega)
 |succ d ih=>
  intro i h h1 h2
  by_cases h3:b<(sF l sE (i+d)).n
  ·obtain⟨k,k1,k2,k3⟩:=ih i (by omega) h1 h3
   exact⟨k,k1,by omega,k3⟩
  ·exact⟨i+d,by omega,by omega,(ho (i+d) (by omega)).nw b (by omega) h2⟩
end
structure RI(P:Program)(all:Array Oper)(sz:Nat)(l:List Ent)(tmE:Tree Value)(s0 sE:St)(F:Fp)(ρ0:Map)(w0:World)(D:Nat→Bool)(ρ:Map)(w:World)(tmps:Array Value):Prop where
 inj: ∀b c x,(ρ b).tgt=some x→(ρ c).tgt=some x→b=c
 lt: ∀b x,(ρ b).tgt=some x→x<w.heap.size
 gr:GR P ρ
 mem: ∀b,F.testBit b=true→ ∀k,k≤all.size→(∀i,i<all.size→(wF l i).testBit b=true→(D i=true↔i<k))→b<(sF l sE k).n→At ρ w b ((sF l sE k).t.get b)
 size:tmps.size=sz
 tmp: ∀t k,k≤all.size→(∀i p,all[i]?=some p→p.dst=some t→(D i=true↔i<k))→VRel ρ (((tmF l tmE k).get t).getD undef) (tmps.getD t undef)
 fresh: ∀i,i<all.size→D i=false→ ∀b,(sF l sE i).n≤b→b<(sF l sE (i+1)).n→ρ b=.none
 ext:Ext sE.w ρ0 ρ s0 sE w0 w
 closed:Closed all D
 fok:F.ok
section
variable {P:Program} {call:CF→St→Option (Value×St)} {all:Array Oper} {sz:Nat} {l:List Ent} {tmE:Tree Value} {s0 sE:St} {F:Fp} {ρ0:Map} {w0:World}
theorem sF_end(hl:l.length=all.size):sF l sE all.size=sE:=by
 unfold sF
 rw[List.getElem?_eq_none (by omega)]
theorem tmF_end(hl:l.length=all.size):tmF l tmE all.size=tmE:=by
 unfold tmF
 rw[List.getElem?_eq_none (by omega)]
theorem tm_chain(hsteps: ∀i o,all[i]?=some o→StepAt P call all sz o l tmE sE i){t:Nat}: ∀(d i:Nat),i+d≤all.size→(∀k p,i≤k→k<i+d→all[k]?=some p→p.dst≠some t)→(tmF l tmE (i+d)).get t=(tmF l tmE i).get t:=by
 intro d
 induction d with
 |zero=>intro i _ _;rfl
 |succ d ih=>
  intro i h hno
  have h1:=ih i (by omega) (fun k p h1 h2=>hno k p h1 (by omega))
  have hk:all[i+d]?=some all[i+d]:=Array.getElem?_eq_getElem (by omega)
  have hne:=hno (i+d) _ (by omega) (by omega) hk
  have key: ∀(x:Value) (tm1:Tree Value),putC (tmF l tmE (i+d)) sz all[i+d].dst x=some tm1→tm1.get t=(tmF l tmE (i+d)).get t:=by
   intro x tm1 hp
   unfold putC at hp
   split at hp
   ·rename_i dd hdd
    split at hp
    ·rename_i hd
     injection hp with hp
     subst hp
     rw[Tree.get_set 40 _ _ _ _ hd.2,if_neg]
     intro e
     subst e
     exact hne hdd
    ·cases hp
   ·injection hp with hp;subst hp;rfl
  have h2:(tmF l tmE (i+(d+1))).get t=(tmF l tmE (i+d)).get t:=by
   rcases hsteps (i+d) _ hk with⟨_,_,v,s1,_,hp,_⟩|⟨_,hp,_⟩
   ·exact key v _ hp
   ·exact key undef _ hp
  exact h2.trans h1
theorem tm_le(hsteps: ∀i o,all[i]?=some o→StepAt P call all sz o l tmE sE i){t i j:Nat}(h:i≤j)(hj:j≤all.size)(hno: ∀k p,i≤k→k<j→all[k]?=some p→p.dst≠some t):(tmF l tmE j).get t=(tmF l tmE i).get t:=by
 have:=tm_chain hsteps (t:=t) (j-i) i (by omega) (fun k p h1 h2=>hno k p h1 (by omega))
 rwa [show i+(j-i)=j by omega]at this
end
end Go.Canon
namespace Go.Canon
variable [Ghosts]
section
variable {P:Program} {call:CF→St→Option (Value×St)} {all:Array Oper} {sz:Nat} {l:List Ent} {tmE tm0:Tree Value} {s0 sE:St} {F:Fp} {ρ0:Map} {w0:World}
theorem ord_done{D:Nat→Bool}(hb:backB all=true)(hcl:Closed all D){i j:Nat}{o:Oper}(hi:i<all.size)(hj:all[j]?=some o)(hD:D j=false)(hr: ∀e∈o.after.toList,Region.binds .any e=true→D e.on=true)(h:Ord all i j):D i=true↔i<j:=by
 rcases h with⟨h1,h2⟩|⟨h1,h2⟩
 ·exact⟨fun _=>h1,fun _=>hcl.prior_ready hb hj hr i h2⟩
 ·refine⟨fun h3=>?_,fun h3=>by omega⟩
  have:=hcl.prior hb i hi h3 j h2
  rw[hD]at this;cases this
theorem RI.start(hl:l.length=all.size)(h0:sF l sE 0=s0)(ht:tmF l tmE 0=tm0)(ho: ∀i,i<all.size→OneOp l sE i)(hsteps: ∀i o,all[i]?=some o→StepAt P call all sz o l tmE sE i)
 {a:Act} {w1:World} (hfr:Fresh ρ0 s0 sE) (hi:Inv F ρ0 s0 w0) (hg:GR P ρ0) (htm:TRel ρ0 tm0 sz a.tmps) (hw:w1.heap=w0.heap∧w1.os=w0.os∧w1.output=w0.output∧w1.tape=w0.tape):
 RI P all sz l tmE s0 sE F ρ0 w0 (fun i=>decide (all.size≤i)) ρ0 w1 a.tmps:=by
 have hE:=sF_end (sE:=sE) hl
 have m:Mono s0 sE:=by have:=mono_le ho (Nat.zero_le all.size) (Nat.le_refl _);rwa [h0,hE]at this
 have i1:=hi.drew hw.1
 refine⟨i1.inj,i1.lt,hg,?_,htm.1,?_,?_,?_,?_,hi.ok⟩
 ·intro b hF k hk hcons hb
  have hno: ∀i,0≤i→i<k→(wF l i).testBit b=false:=by
   intro i _ hi2
   cases hwb:(wF l i).testBit b with
   |false=>rfl
   |true=>
    have:=(hcons i (by omega) hwb).2 hi2
    simp at this;omega
  have hb0:b<s0.n:=by
   apply Classical.byContradiction
   intro hn
   obtain⟨q,q1,q2,q3⟩:=made ho (b:=b) k 0 (by omega) (by rw[h0];omega) (by rwa [Nat.zero_add])
   rw[hno q q1 (by omega)]at q3;cases q3
  rw[get_le ho (Nat.zero_le k) hk hno (by rw[h0];exact hb0),h0]
  exact i1.at_ b hb0 hF
 ·intro t k hk hcons
  have hno: ∀i p,0≤i→i<k→all[i]?=some p→p.dst≠some t:=by
   intro i p _ hi2 hp hd
   have:=(hcons i p hp hd).2 hi2
   simp at this;omega
  rw[tm_le hsteps (Nat.zero_le k) hk hno,ht]
  exact htm.2 t
 ·intro i hi2 _ b h1 h2
  refine hfr b ?_ ?_
  ·have:=(mono_le ho (Nat.zero_le i) (by omega)).n;rw[h0]at this;omega
  ·have:=(mono_le ho (show i+1≤all.size by omega) (Nat.le_refl _)).n;rw[hE]at this;omega
 ·refine⟨.refl _,m.n,m.get,fun _ _ _=>rfl,fun _ _=>rfl,fun _ _=>.inl rfl,fun c _ _=>by rw[hw.1],by rw[hw.1];exact Nat.le_refl _,fun b c h1 h2 h3=>?_,hw.2.1,hw.2.2.1,hw.2.2.2,fun _=>.of_same fun c _=>by rw[hw.1]⟩
  rw[hfr b h1 h2]at h3;cases h3
 ·intro j o hj hD
  have:j<all.size:=(Array.getElem?_eq_some_iff.1 hj).1
  simp at hD;omega
theorem RI.step(hP:NG P)(hcall:RunOkE P call)(hl:l.length=all.size)(h0:sF l sE 0=s0)(ho: ∀i,i<all.size→OneOp l sE i)(hsteps: ∀i o,all[i]?=some o→StepAt P call all sz o l tmE sE i)
 (hok:okRegion all=true) (hc:confAll (bef all) [] l=true) (hF:Fp.Sub sE.fp F) {D:Nat→Bool} {ρ:Map} {w:World} {a:Act} (hR:RI P all sz l tmE s0 sE F ρ0 w0 D ρ w a.tmps)
 {j:Nat} {o:Oper} (hj:all[j]?=some o) (hD:D j=false) (hr: ∀e∈o.after.toList,Region.binds .any e=true→D e.on=true) (b:Frame) (rest:List Nat) (k:List Item) (cs:List Frame):
 ∃ρ1 w1 v',RI P all sz l tmE s0 sE F ρ0 w0 (fun i=>i==j||D i) ρ1 w1 (a.put o.dst v').tmps∧
  Steps P (lone (b.atR a (.inRegion all (j::rest)::k)) cs w) (lone (b.atR (a.put o.dst v') (.inRegion all rest::k)) cs w1):=by
 have hE:=sF_end (sE:=sE) hl
 have hjn:j<all.size:=(Array.getElem?_eq_some_iff.1 hj).1
 unfold okRegion at hok
 rw[Bool.and_eq_true]at hok
 obtain⟨hb,hap⟩:=hok
 have hoj:=ho j hjn
 have mE:Mono (sF l sE (j+1)) sE:=by have:=mono_le ho (show j+1≤all.size by omega) (Nat.le_refl _);rwa [hE]at this
 have m0:Mono s0 (sF l sE j):=by have:=mono_le ho (Nat.zero_le j) (by omega);rwa [h0]at this
 have looks: ∀t,t∈o.looksAt all→VRel ρ (((tmF l tmE j).get t).getD undef) (a.tmps.getD t undef):=by
  intro t htl
  refine hR.tmp t j (by omega) fun i p hi hd=>?_
  by_cases hij:i=j
  ·subst hij;rw[hD];simp
  ·exact ord_done hb hR.closed (Array.getElem?_eq_some_iff.1 hi).1 hj hD hr (apart_ord hap hi hj hij hd (.inl htl))
 have hwant:Region.wanted o (yielded all a.tmps)=Region.wanted o (yieldedT all (tmF l tmE j)):=by
  refine wanted_eq (ρ:=ρ) fun g wt hg t ht=>looks t ?_
  simp[Oper.looksAt,hg,ht]
 have closed':Closed all (fun i=>i==j||D i):=by
  intro q p hq hDq e he hbe
  by_cases hqj:q=j
  ·subst hqj
   rw[hj]at hq
   injection hq with hq
   subst hq
   simp[hr e he hbe]
  ·have:D q=true:=by simpa [hqj]using hDq
   simp[hR.closed q p hq this e he hbe]
 have later: ∀i,i<all.size→j<i→Ord all i j→D i=false:=by
  intro i hi hji hord
  have:=ord_done hb hR.closed hi hj hD hr hord
  cases hDi:D i with
  |false=>rfl
  |true=>have:=this.1 hDi;omega
 have tmps': ∀(ρ1:Map) (x x':Value),le ρ ρ1→VRel ρ1 x x'→putC (tmF l tmE j) sz o.dst x=some (tmF l tmE (j+1))→
  (a.put o.dst x').tmps.size=sz∧ ∀t k,k≤all.size→(∀i p,all[i]?=some p→p.dst=some t→((i==j||D i)=true↔i<k))→VRel ρ1 (((tmF l tmE k).get t).getD undef) ((a.put o.dst x').tmps.getD t undef):=by
  intro ρ1 x x' hl1 hx hp
  have hs:(a.put o.dst x').tmps.size=sz:=by
   have:=hR.size
   cases o.dst<;>simp[Act.put,this]
  refine⟨hs,fun t k hk hcons=>?_⟩
  by_cases hd:o.dst=some t
  ·have hjk:j<k:=(hcons j o hj hd).1 (by simp)
   have hno: ∀i p,j+1≤i→i<k→all[i]?=some p→p.dst≠some t:=by
    intro i p h1 h2 hp2 hd2
    have h3:=(hcons i p hp2 hd2).2 h2
    have h4:D i=true:=by
     have:(i==j)=false:=by simp;omega
     rw[this,Bool.false_or]at h3;exact h3
    have h5:=later i (by omega) (by omega) (apart_ord hap hp2 hj (by omega) hd2 (.inr hd))
    rw[h5]at h4;cases h4
   rw[tm_le hsteps (show j+1≤k by omega) hk hno]
   unfold putC at hp
   rw[hd]at hp
   simp only at hp
   split at hp
   ·rename_i hdl
    injection hp with hp
    rw[←hp,Tree.get_set 40 _ _ _ _ hdl.2,if_pos rfl]
    have hts:=hR.size
    simp only[hd,Act.put,Array.getD_eq_getD_getElem?,Array.getElem?_setIfInBounds,if_true]
    rw[if_pos (by rw[hts];exact hdl.1)]
    exact hx
   ·cases hp
  ·have h1:=hR.tmp t k hk fun i p hi hd2=>by
    have:=hcons i p hi hd2
    have hij:i≠j:=by
     intro e;subst e
     rw[hj]at hi
     injection hi with hi
     subst hi
     exact hd hd2
    have e1:(i==j)=false:=by simpa using hij
    rw[e1,Bool.false_or]at this
    exact this
   have h2:(a.put o.dst x').tmps.getD t undef=a.tmps.getD t undef:=by
    cases hdd:o.dst with
    |none=>rfl
    |some d=>
     have hne:d≠t:=fun e=>hd (e▸hdd)
     simp[Act.put,Array.getD_eq_getD_getElem?,Array.getElem?_setIfInBounds_ne hne]
   rw[h2]
   exact h1.mono hl1
 rcases hsteps j o hj with⟨hw,hokop,v,s1,hop,hput,hs,hrr,hww⟩|⟨hw,hput,hs,hrr,hww⟩
 ·obtain⟨m1,h1⟩:=doOp_ok hP hcall hop
  have hfp:Fp.Sub s1.fp F:=by
   have hF1:Sub (sE.r|||sE.w) F.m:=hF.1
   have a1:Sub s1.r F.m:=by
    rw[←hrr];exact(hoj.r.trans mE.r).trans ((Sub.orl _ _).trans hF1)
   have a2:Sub s1.w F.m:=by
    rw[←hww];exact(hoj.w.trans mE.w).trans ((Sub.orr _ _).trans hF1)
   have a3:(sF l sE (j+1)).good→s1.good:=fun x=>by rw[hs]at x;exact x
   exact⟨a1.or a2,fun x=>a3 (mE.good (hF.2 x))⟩
  have hn1:s1.n=(sF l sE (j+1)).n:=by rw[hs];rfl
  have ht1:s1.t=(sF l sE (j+1)).t:=by rw[hs];rfl
  have hinv:Inv s1.fp ρ (sF l sE j).zero w:=by
   refine⟨fun b hbn hfb=>?_,hR.inj,hR.lt,hfp.2 hR.fok⟩
   refine hR.mem b (hfp.1 b hfb) j (by omega) (fun i hi hwi=>?_) hbn
   by_cases hij:i=j
   ·subst hij;rw[hD];simp
   ·refine ord_done hb hR.closed hi hj hD hr (conf_ord hc (by omega) (by omega) hij hwi ?_)
    rw[hrr,hww]
    simpa [St.fp,Fp.testBit,Nat.testBit_or]using hfb
  have hfresh:Fresh ρ (sF l sE j).zero s1:=fun b k1 k2=>hR.fresh j hjn hD b k1 (by rw[←hn1];exact k2)
  obtain⟨ρ1,w1,v',i1,e1,hv,hd⟩:=h1 s1.fp (.refl _) ρ w a hfresh hinv hR.gr (fun x hx=>evT_rel hR.gr (fun t ht=>looks t (by
   subst ht
   refine List.mem_append_left _ (List.mem_filterMap.2 ⟨.tmp t,by simpa using hx,rfl⟩))) (okOp_mem hokop x hx)) b all j rest k cs hj (by rw[hwant];exact hw)
  obtain⟨ts1,ts2⟩:=tmps' ρ1 v v' e1.le hv hput
  refine⟨ρ1,w1,v',⟨i1.inj,i1.lt,hR.gr.mono e1.le,?_,ts1,ts2,?_,?_,closed',hR.fok⟩,hd⟩
  ·intro b hFb k hk hcons hbk
   cases hwb:(wF l j).testBit b with
   |true=>
    have hjk:j<k:=(hcons j hjn hwb).1 (by simp)
    have hno: ∀i,j+1≤i→i<k→(wF l i).testBit b=false:=by
     intro i k1 k2
     cases hwi:(wF l i).testBit b with
     |false=>rfl
     |true=>
      have h3:=(hcons i (by omega) hwi).2 k2
      have h4:D i=true:=by
       have:(i==j)=false:=by simp;omega
       rw[this,Bool.false_or]at h3;exact h3
      have h5:=later i (by omega) (by omega) (conf_ord hc (by omega) (by omega) (by omega) hwi (.inr hwb))
      rw[h5]at h4;cases h4
    have hbn:b<(sF l sE (j+1)).n:=by
     apply Classical.byContradiction
     intro hn
     obtain⟨q,q1,q2,q3⟩:=made ho (b:=b) (k-(j+1)) (j+1) (by omega) (by omega) (by rwa [show j+1+(k-(j+1))=k by omega])
     rw[hno q q1 (by omega)]at q3;cases q3
    rw[get_le ho (show j+1≤k by omega) hk hno hbn,←ht1]
    refine i1.at_ b (by rw[hn1];exact hbn) ?_
    rw[hww]at hwb
    simp[St.fp,Fp.testBit,Nat.testBit_or,hwb]
   |false=>
    have h1:=hR.mem b hFb k hk (fun i hi hwi=>by
     have hij:i≠j:=by intro e;subst e;rw[hwb]at hwi;cases hwi
     have:=hcons i hi hwi
     have e1:(i==j)=false:=by simpa using hij
     rw[e1,Bool.false_or]at this
     exact this) hbk
    have hsw:s1.w.testBit b=false:=by rw[←hww];exact hwb
    refine h1.keep e1.le ?_ (fun c hcb=>?_) e1.u
    ·by_cases k1:b<(sF l sE j).n
     ·exact e1.same b k1 hsw
     ·by_cases k2:b<s1.n
      ·have:=m1.nw b (by simp only[St.zero];omega) k2
       rw[this]at hsw;cases hsw
      ·exact e1.far b (by omega)
    ·refine e1.heap c (hR.lt b c hcb) fun b2 _ k2 k3=>?_
     have:=hR.inj b2 b c k3 hcb
     subst this
     rw[k2]at hsw;cases hsw
  ·intro i hi hDi b k1 k2
   have hij:i≠j:=by
    intro e;subst e;simp at hDi
   have hDi2:D i=false:=by
    have e1:(i==j)=false:=by simpa using hij
    rw[e1,Bool.false_or]at hDi;exact hDi
   have hnone:=hR.fresh i hi hDi2 b k1 k2
   rcases Nat.lt_or_gt_of_ne hij with hlt|hlt
   ·have:(sF l sE (i+1)).n≤(sF l sE j).n:=(mono_le ho (show i+1≤j by omega) (by omega)).n
    rcases e1.old b (by simp only[St.zero];omega)with q|⟨q,_⟩
    ·exact q.trans hnone
    ·rw[hnone]at q;cases q
   ·have:(sF l sE (j+1)).n≤(sF l sE i).n:=(mono_le ho (show j+1≤i by omega) (by omega)).n
    exact(e1.far b (by omega)).trans hnone
  ·refine hR.ext.insert e1 m0.n (by rw[hn1];exact mE.n) ?_
   rw[←hww];exact hoj.w.trans mE.w
 ·obtain⟨ts1,ts2⟩:=tmps' ρ undef undef (.refl _) (undef_rel ρ) hput
  refine⟨ρ,w,undef,⟨hR.inj,hR.lt,hR.gr,?_,ts1,ts2,?_,hR.ext,closed',hR.fok⟩,?_⟩
  ·intro b hFb k hk hcons hbk
   refine hR.mem b hFb k hk (fun i hi hwi=>?_) hbk
   have hij:i≠j:=by intro e;subst e;rw[hww]at hwi;simp at hwi
   have:=hcons i hi hwi
   have e1:(i==j)=false:=by simpa using hij
   rw[e1,Bool.false_or]at this
   exact this
  ·intro i hi hDi b k1 k2
   have hij:i≠j:=by
    intro e;subst e;simp at hDi
   have e1:(i==j)=false:=by simpa using hij
   rw[e1,Bool.false_or]at hDi
   exact hR.fresh i hi hDi b k1 k2
  ·have hs:=stepR_op_skip (P:=P) (b:=b) (a:=a) (k:=k) (cs:=cs) (w:=w) (ops:=all) (i:=j) (rest:=rest) (by
    rw[hj,Option.map_some,Option.getD_some,hwant]
    exact hw)
   rw[hj]at hs
   exact .one hs
theorem RI.every(hP:NG P)(hcall:RunOkE P call)(hl:l.length=all.size)(h0:sF l sE 0=s0)(ho: ∀i,i<all.size→OneOp l sE i)(hsteps: ∀i o,all[i]?=some o→StepAt P call all sz o l tmE sE i)
 (hok:okRegion all=true) (hc:confAll (bef all) [] l=true) (hF:Fp.Sub sE.fp F) {D:Nat→Bool} {order:List Nat} (hval:Val all D order):
 ∀(ρ:Map) (w:World) (a:Act),RI P all sz l tmE s0 sE F ρ0 w0 D ρ w a.tmps→ ∀(b:Frame) (k:List Item) (cs:List Frame),
  ∃ρ1 w1 a1 D1,RI P all sz l tmE s0 sE F ρ0 w0 D1 ρ1 w1 a1.tmps∧(∀i,i<all.size→D1 i=true)∧a1.defers=a.defers∧
   Steps P (lone (b.atR a (.inRegion all order::k)) cs w) (lone (b.atR a1 k) cs w1):=by
 induction hval with
 |done D hall=>intro ρ w a hR b k cs;exact⟨ρ,w,a,D,hR,hall,rfl,.one stepR_region_end⟩
 |next D j o l' hj hD hr _ ih=>
  intro ρ w a hR b k cs
  obtain⟨ρ1,w1,v',hR1,hs⟩:=hR.step hP hcall hl h0 ho hsteps hok hc hF hj hD hr b l' k cs
  obtain⟨ρ2,w2,a2,D2,hR2,hall,hdf,hs2⟩:=ih ρ1 w1 (a.put o.dst v') hR1 b k cs
  exact⟨ρ2,w2,a2,D2,hR2,hall,hdf.trans (put_defers _ _ _),hs.trans hs2⟩
end
theorem doOpsD_ok{P:Program}(hP:NG P)(hm:P.follows .mixedOrders=true){call:CF→St→Option (Value×St)}(hcall:RunOkE P call){all:Array Oper}{sz:Nat}{tm tmE:Tree Value}{s sE:St}{l:List Ent}
 (h:doOpsD P call all sz all.toList tm s=some (l,tmE,sE)) (hok:okRegion all=true) (hc:confAll (bef all) [] l=true):
 Mono s sE∧ ∀F,Fp.Sub sE.fp F→ ∀ρ w a,Fresh ρ s sE→Inv F ρ s w→GR P ρ→TRel ρ tm sz a.tmps→
  ∀(id fn:Nat) (b:Frame) (k:List Item) (cs:List Frame),b.fn=fn→ ∃ρ1 w1 a1,Inv F ρ1 sE w1∧Ext sE.w ρ ρ1 s sE w w1∧TRel ρ1 tmE sz a1.tmps∧a1.defers=a.defers∧
   Steps P (lone (b.atR a (.code (.region id all true)::k)) cs w) (lone (b.atR a1 k) cs w1):=by
 obtain⟨hl,ht0,hs0,hst⟩:=doOpsD_steps _ _ _ _ _ _ h
 have hl:l.length=all.size:=by simpa using hl
 have hsteps: ∀i o,all[i]?=some o→StepAt P call all sz o l tmE sE i:=fun i o ho=>hst i o (by simpa using ho)
 have ho: ∀i,i<all.size→OneOp l sE i:=fun i hi=>oneOp hP hcall (hsteps i all[i] (Array.getElem?_eq_getElem hi))
 have hE:=sF_end (sE:=sE) hl
 have m:Mono s sE:=by have:=mono_le ho (Nat.zero_le all.size) (Nat.le_refl _);rwa [hs0,hE]at this
 refine⟨m,fun F hF ρ w a hfr hi hg htm id fn b k cs hbf=>?_⟩
 have hok2:=hok
 unfold okRegion at hok2
 rw[Bool.and_eq_true]at hok2
 have hR:=RI.start (w1:={w with drawn:=w.drawn+1}) hl hs0 ht0 ho hsteps hfr hi hg htm ⟨rfl,rfl,rfl,rfl⟩
 obtain⟨ρ1,w1,a1,D1,hR1,hall,hdf,hs⟩:=RI.every hP hcall hl hs0 ho hsteps hok hc hF (val_schedule hok2.1 (w.tape w.drawn (.order fn id))) ρ _ a hR b k cs
 refine⟨ρ1,w1,a1,⟨?_,hR1.inj,hR1.lt,hR1.fok⟩,hR1.ext,⟨hR1.size,fun t=>?_⟩,hdf,?_⟩
 ·intro b hb hFb
  have:=hR1.mem b hFb all.size (Nat.le_refl _) (fun i hi _=>⟨fun _=>hi,fun _=>hall i hi⟩) (by rw[hE];exact hb)
  rwa [hE]at this
 ·have:=hR1.tmp t all.size (Nat.le_refl _) (fun i p hi _=>⟨fun _=>(Array.getElem?_eq_some_iff.1 hi).1,fun h=>hall i h⟩)
  rwa [tmF_end hl]at this
 ·have h1:=stepR_region_draw (P:=P) (b:=b) (a:=a) (k:=k) (cs:=cs) (w:=w) (ops:=all) (id:=id)
  rw[hm,hbf]at h1
  exact .head h1 hs
end Go.Canon
