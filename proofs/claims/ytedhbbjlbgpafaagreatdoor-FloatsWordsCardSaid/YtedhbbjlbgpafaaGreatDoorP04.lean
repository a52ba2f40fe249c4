/-
  Loops over functions, results: the canonical ones and the model's.
-/
import Derived.Test.YtedhbbjlbgpafaaGreatDoorP03
import Derived.Lib.LaidTab
import GoSem.ClaimJoined
set_option linter.unusedVariables false
set_option linter.unusedSimpArgs false
set_option linter.unusedSectionVars false
namespace Go.Canon
variable [Ghosts]
theorem loop_turn{s:St}{l:Nat}{st:LoopState}{pe:Option Code}{fn:FuncId}{tm:Tree Value}{sz:Nat}{ps:Array Tmp}{as bo:Code}{df:Nat}(h:loopAt s l=some (st,pe,fn,tm,sz,ps,as,bo,df))(st2:LoopState)(pe2:Option Code)
 {R:Map→World→Unit→Map→World→Prop} (hR: ∀ρ w l' tmps d',ρ l=.hard l'→w.heap[l']?=some (.loop {state:=st,pending:=pe,fn,tmps,params:=ps,assign:=as,body:=bo,defers:=d'})→
  R ρ w () ρ (setB w l' (.loop {state:=st2,pending:=pe2,fn,tmps,params:=ps,assign:=as,body:=bo,defers:=d'}))):
 Moves s (s.wr l (.loop st2 pe2 fn tm sz ps as bo df)) (fun _ _=>True) R:=by
 obtain⟨l1,l2,l3⟩:=loopAt_get h
 refine moves_wr s l _ l1 l2 fun ρ w x _ hA=>?_
 rw[l3]at hA
 cases hA with
 |loop b' _ _ _ _ _ _ _ _ _ tmps d' k1 k2 k3 k4=>
  exact⟨b',_,by rw[k1];rfl,fun w1 hw1=>.loop b' _ _ _ _ _ _ _ _ _ tmps d' k1 k2 k3 hw1,fun _=>.of_obj k4 (fun _ _ _ h=>by cases h),hR ρ w b' tmps d' k1 k4⟩
def endRoundC(s:St)(l:Nat)(jump:Option Code):Option (Value×St):=
 match loopAt s l with
 |some (_,_,fn,tm,sz,ps,as,bo,df)=>some (.bool jump.isNone,s.wr l (.loop (if jump.isNone then .ready else .done) jump fn tm sz ps as bo df))
 |none=>none
theorem endRoundC_ok(P:Program){s s1:St}{l:Nat}{jump:Option Code}{v:Value}(h:endRoundC s l jump=some (v,s1)):
 v=.bool jump.isNone∧Moves s s1 (fun(_:Map) (_:Unit)=>True) fun ρ w _ ρ1 w1=>ρ1=ρ∧ ∀l',ρ l=.hard l'→(Instr.endRound l' jump).run P w=.ok (.bool jump.isNone) w1:=by
 unfold endRoundC at h
 split at h
 ·rename_i st pe fn tm sz ps as bo df hl
  injection h with h;injection h with h1 h2
  subst h1 h2
  refine⟨rfl,loop_turn hl _ _ fun ρ w l' tmps d' k1 k2=>⟨rfl,fun l2 hl2=>?_⟩⟩
  rw[k1]at hl2
  injection hl2 with hl2
  subst hl2
  unfold Instr.endRound
  rw[Sem.run_bind,run_getLoop k2,Result.andThen_ok,Sem.run_bind,run_setObj k2]
  rfl
 ·cases h
def beginRoundC(s:St)(l:Nat):Option St:=
 match loopAt s l with
 |some (.ready,pe,fn,tm,sz,ps,as,bo,df)=>some (s.wr l (.loop .busy pe fn tm sz ps as bo df))
 |_=>none
theorem beginRoundC_ok(P:Program){s s1:St}{l:Nat}(h:beginRoundC s l=some s1):
 Moves s s1 (fun(_:Map) (_:Unit)=>True) fun ρ w _ ρ1 w1=>ρ1=ρ∧ ∀l',ρ l=.hard l'→(Instr.beginRound l').run P w=.ok () w1:=by
 unfold beginRoundC at h
 split at h
 ·rename_i pe fn tm sz ps as bo df hl
  injection h with h
  subst h
  refine loop_turn hl _ _ fun ρ w l' tmps d' k1 k2=>⟨rfl,fun l2 hl2=>?_⟩
  rw[k1]at hl2
  injection hl2 with hl2
  subst hl2
  unfold Instr.beginRound
  rw[Sem.run_bind,run_getLoop k2,Result.andThen_ok,Sem.run_bind,run_setObj k2]
  rfl
 ·cases h
def endLoopC(s:St)(l:Nat):Option (Option Code×St):=
 match loopAt s l with
 |some (st,pe,fn,tm,sz,ps,as,bo,df)=>if st=.busy then none else some (pe,s.wr l (.loop .exhausted pe fn tm sz ps as bo df))
 |none=>none
theorem endLoopC_ok(P:Program){s s1:St}{l:Nat}{pe:Option Code}(h:endLoopC s l=some (pe,s1)):
 Moves s s1 (fun(_:Map) (_:Unit)=>True) fun ρ w _ ρ1 w1=>ρ1=ρ∧ ∀l',ρ l=.hard l'→(Instr.endLoop l').run P w=.ok pe w1:=by
 unfold endLoopC at h
 split at h
 ·rename_i st pe2 fn tm sz ps as bo df hl
  split at h
  ·cases h
  ·rename_i hst
   injection h with h;injection h with h1 h2
   subst h1 h2
   refine loop_turn hl _ _ fun ρ w l' tmps d' k1 k2=>⟨rfl,fun l2 hl2=>?_⟩
   rw[k1]at hl2
   injection hl2 with hl2
   subst hl2
   unfold Instr.endLoop
   rw[Sem.run_bind,run_getLoop k2,Result.andThen_ok]
   have hb:(st==LoopState.busy)=false:=by simpa using hst
   simp only[hb,Bool.false_eq_true,if_false]
   rw[Sem.run_bind,run_setObj k2]
   rfl
 ·cases h
def takeC(s:St)(d:Nat):Option St:=
 if d<s.n∧d+1<2^40 then match s.t.get d with
  |some .defd=>some (s.wr d .dead)
  |_=>none
 else none
theorem takeC_ok(P:Program){s s1:St}{d:Nat}(h:takeC s d=some s1):
 Moves s s1 (fun(_:Map) (_:Unit)=>True) fun ρ w _ ρ1 w1=>ρ1=ρ∧ ∀d',ρ d=.hard d'→(Instr.takeDeferred d').run P w=.ok [] w1:=by
 unfold takeC at h
 split at h
 ·rename_i hd
  split at h
  ·rename_i hg
   injection h with h
   subst h
   refine moves_wr s d _ hd.1 hd.2 fun ρ w x _ hA=>?_
   rw[hg]at hA
   cases hA with
   |defd b' k1 k2=>
    refine⟨b',.deferred none,by rw[k1];rfl,fun w1 _=>.dead,fun _=>.of_obj k2 (fun _ _ _ h=>by cases h),rfl,fun d2 hd2=>?_⟩
    rw[k1]at hd2
    injection hd2 with hd2
    subst hd2
    unfold Instr.takeDeferred
    simp[getObj,setObj,Sem.run,k2,setB]
  ·cases h
 ·cases h
def loadR(P:Program)(t:TypeId)(v:Value)(s:St):Option (Value×St):=
 match loadC P t v s with
 |some (.val v,s1)=>some (v,s1)
 |_=>none
theorem ld1_shape{s s1:St}{a:Addr}{v:Value}(h:ld1 s a=some (v,s1)):s1=s∨ ∃b,s1=s.rd b:=by
 unfold ld1 at h
 split at h
 ·rename_i v2 s2 hl
  injection h with h;injection h with h1 h2
  subst h1 h2
  exact(ldCs_shape hl).1.imp id (fun e=>⟨_,e⟩)
 ·cases h
theorem ld1_read(P:Program){s s1:St}{a:Addr}{v:Value}(h:ld1 s a=some (v,s1)){F:Fp}(hF:Fp.Sub s1.fp F){ρ:Map}{w:World}(hi:Inv F ρ s w){a':Addr}(ha:AdR ρ a a'):
 ∃r,(load a').run P w=.ok r w∧VRel ρ v r:=by
 unfold ld1 at h
 split at h
 ·rename_i v2 s2 hl
  injection h with h;injection h with h1 h2
  subst h1 h2
  obtain⟨r,h1,h2⟩:=ldCs_read P hl hF hi ha
  obtain⟨v,rfl,hv⟩:=loadCells_one P w a' r w (h1 w rfl)
  exact⟨v,hv,h2.2 0 (by simp) (by simp)⟩
 ·cases h
theorem loadR_shape{P:Program}{t:TypeId}{v u:Value}{s s1:St}(h:loadR P t v s=some (u,s1)):s1=s∨ ∃b,s1=s.rd b:=by
 unfold loadR at h
 split at h
 ·rename_i u2 s2 hl
  injection h with h;injection h with h1 h2
  subst h1 h2
  unfold loadC at hl
  split at hl
  ·split at hl
   ·split at hl
    ·split at hl
     ·split at hl
      ·rename_i hld
       injection hl with hl;injection hl with h1 h2
       subst h2
       exact(ldCs_shape hld).1.imp id (fun e=>⟨_,e⟩)
      ·cases hl
     ·cases hl
    ·split at hl
     ·rename_i hld
      injection hl with hl;injection hl with h1 h2
      subst h2
      exact ld1_shape hld
     ·cases hl
   ·cases hl
  ·cases hl
 ·cases h
theorem loadR_read(P:Program){t:TypeId}{v u:Value}{s s1:St}(h:loadR P t v s=some (u,s1)){F:Fp}(hF:Fp.Sub s1.fp F){ρ:Map}{w:World}(hi:Inv F ρ s w){v':Value}(hv:VRel ρ v v'):
 ∃r,(do loadVar t (←asAddr v')).run P w=.ok r w∧VRel ρ u r:=by
 unfold loadR at h
 split at h
 ·rename_i u2 s2 hl
  injection h with h;injection h with h1 h2
  subst h1 h2
  unfold loadC at hl
  split at hl
  ·rename_i a
   obtain⟨a',e,ha⟩:=hv.ptr_inv
   subst e
   split at hl
   ·rename_i d hd
    split at hl
    ·rename_i hagg
     split at hl
     ·rename_i i hinfo
      split at hl
      ·rename_i l s3 hld
       injection hl with hl;injection hl with h1 h2
       injection h1 with h1
       subst h1 h2
       obtain⟨r,r1,r2⟩:=ldCs_read P hld hF hi ha
       refine⟨.agg r,?_,.agg_of r2⟩
       simp only[asAddr,Sem.run_bind,Sem.run_pure,Result.andThen_ok,loadVar,run_isAgg_of hd,hagg,if_true,run_sizeOf_of hinfo,r1 w rfl]
      ·cases hl
     ·cases hl
    ·rename_i hagg
     split at hl
     ·rename_i x s3 hld
      injection hl with hl;injection hl with h1 h2
      injection h1 with h1
      subst h1 h2
      obtain⟨r,r1,r2⟩:=ld1_read P hld hF hi ha
      refine⟨r,?_,r2⟩
      simp only[asAddr,Sem.run_bind,Sem.run_pure,Result.andThen_ok,loadVar,run_isAgg_of hd,hagg,Bool.false_eq_true,if_false,r1]
     ·cases hl
   ·cases hl
  ·cases hl
 ·cases h
def resL(P:Program)(tm:Tree Value):List ResultVar→St→Option (List Value×St)
 |[],s=>some ([],s)
 |.tmp t::rs,s=>match resL P tm rs s with
  |some (l,s1)=>some ((tm.get t).getD undef::l,s1)
  |none=>none
 |.cell a t::rs,s=>match loadR P t ((tm.get a).getD undef) s with
  |some (v,s1)=>match resL P tm rs s1 with
   |some (l,s2)=>some (v::l,s2)
   |none=>none
  |none=>none
def resC(P:Program)(fn:Func)(tm:Tree Value)(s:St):Option (Value×St):=
 match resL P tm fn.results.toList s with
 |some ([v],s1)=>some (v,s1)
 |some (l,s1)=>some (.tuple ⟨l⟩,s1)
 |none=>none
def ReadOf(s s1:St):Prop:=Mono s s1∧s1.t=s.t∧s1.n=s.n∧s1.w=s.w
theorem ReadOf.refl(s:St):ReadOf s s:=⟨.refl s,rfl,rfl,rfl⟩
theorem ReadOf.trans{a b c:St}(h:ReadOf a b)(k:ReadOf b c):ReadOf a c:=⟨h.1.trans k.1,k.2.1.trans h.2.1,k.2.2.1.trans h.2.2.1,k.2.2.2.trans h.2.2.2⟩
theorem ReadOf.of{s s1:St}(h:s1=s∨ ∃b,s1=s.rd b):ReadOf s s1:=⟨Mono.rd h,by rcases h with e|⟨b,e⟩<;>(subst e;rfl),by rcases h with e|⟨b,e⟩<;>(subst e;rfl),by rcases h with e|⟨b,e⟩<;>(subst e;rfl)⟩
theorem ReadOf.inv{s s1:St}(h:ReadOf s s1){F:Fp}{ρ:Map}{w:World}(hi:Inv F ρ s w):Inv F ρ s1 w:=⟨by rw[h.2.1,h.2.2.1];exact hi.at_,hi.inj,hi.lt,hi.ok⟩
theorem ReadOf.ext{s s1:St}(h:ReadOf s s1){W:Nat}{ρ:Map}{w:World}:Ext W ρ ρ s s1 w w:=
 ⟨.refl _,h.1.n,fun b _ _=>by rw[h.2.1],fun _ _ _=>rfl,fun _ _=>rfl,fun _ _=>.inl rfl,fun _ _ _=>rfl,Nat.le_refl _,fun b c h1 h2=>absurd h1 (by rw[h.2.2.1]at h2;omega),rfl,rfl,rfl,fun _=>.refl _⟩
def resF(tmps:Array Value):ResultVar→Sem Value
 |.tmp t=>pure (tmps.getD t undef)
 |.cell a t=>do loadVar t (←asAddr (tmps.getD a undef))
theorem results_eq(fn:Func)(tmps:Array Value):results fn tmps=(fn.results.mapM (resF tmps)>>=fun vs=>pure (if h:vs.size=1 then vs[0]else .tuple vs)):=by
 unfold results
 congr 1
theorem resL_read(P:Program){tm:Tree Value}: ∀(rs:List ResultVar) (s s1:St) (l:List Value),resL P tm rs s=some (l,s1)→ReadOf s s1∧ ∀F,Fp.Sub s1.fp F→ ∀ρ w (tmps:Array Value),Inv F ρ s w→(∀t,VRel ρ ((tm.get t).getD undef) (tmps.getD t undef))→
 ∃l',(rs.mapM (resF tmps):Sem (List Value)).run P w=.ok l' w∧LRel ρ l l'
 |[],s,s1,l,h=>by
  simp only[resL]at h;injection h with h;injection h with h1 h2;subst h1 h2
  exact⟨.refl _,fun F _ ρ w tmps _ _=>⟨[],rfl,trivial⟩⟩
 |.tmp t::rs,s,s1,l,h=>by
  simp only[resL]at h
  split at h
  ·rename_i l2 s2 hr
   injection h with h;injection h with h1 h2;subst h1 h2
   obtain⟨k1,k2⟩:=resL_read P rs s _ l2 hr
   refine⟨k1,fun F hF ρ w tmps hi ht=>?_⟩
   obtain⟨l',e1,e2⟩:=k2 F hF ρ w tmps hi ht
   refine⟨tmps.getD t undef::l',?_,ht t,e2⟩
   rw[List.mapM_cons]
   simp only[resF,Sem.run_bind,Sem.run_pure,Result.andThen_ok,e1]
  ·cases h
 |.cell a t::rs,s,s1,l,h=>by
  simp only[resL]at h
  split at h
  ·rename_i v s2 hld
   split at h
   ·rename_i l2 s3 hr
    injection h with h;injection h with h1 h2;subst h1 h2
    obtain⟨k1,k2⟩:=resL_read P rs s2 _ l2 hr
    have r1:=ReadOf.of (loadR_shape hld)
    refine⟨r1.trans k1,fun F hF ρ w tmps hi ht=>?_⟩
    obtain⟨r,q1,q2⟩:=loadR_read P hld (k1.1.fp.trans hF) hi (ht a)
    obtain⟨l',e1,e2⟩:=k2 F hF ρ w tmps (r1.inv hi) ht
    refine⟨r::l',?_,q2,e2⟩
    rw[List.mapM_cons]
    have q1':(resF tmps (.cell a t)).run P w=.ok r w:=q1
    rw[Sem.run_bind,q1',Result.andThen_ok,Sem.run_bind,e1]
    rfl
   ·cases h
  ·cases h
theorem resC_read(P:Program){fn:Func}{tm:Tree Value}{s s1:St}{v:Value}(h:resC P fn tm s=some (v,s1)):ReadOf s s1∧ ∀F,Fp.Sub s1.fp F→ ∀ρ w (tmps:Array Value),Inv F ρ s w→(∀t,VRel ρ ((tm.get t).getD undef) (tmps.getD t undef))→
 ∃v',(results fn tmps).run P w=.ok v' w∧VRel ρ v v':=by
 have key: ∀(l':List Value) (w:World) (tmps:Array Value),(fn.results.toList.mapM (resF tmps):Sem (List Value)).run P w=.ok l' w→
  (results fn tmps).run P w=.ok (if h:l'.length=1 then l'[0]else .tuple ⟨l'⟩) w:=by
  intro l' w tmps hrun
  rw[results_eq,Array.mapM_eq_mapM_toList,Sem.run_bind,Sem.run_map,hrun]
  simp only[Result.andThen_ok,Sem.run_pure]
  rfl
 unfold resC at h
 split at h
 ·rename_i v2 s2 hr
  injection h with h;injection h with h1 h2;subst h1 h2
  obtain⟨k1,k2⟩:=resL_read P _ _ _ _ hr
  refine⟨k1,fun F hF ρ w tmps hi ht=>?_⟩
  obtain⟨l',e1,e2⟩:=k2 F hF ρ w tmps hi ht
  cases l' with
  |nil=>exact e2.elim
  |cons x l'=>cases l' with
   |nil=>exact⟨x,key _ w tmps e1,e2.1⟩
   |cons _ _=>exact e2.2.elim
 ·rename_i l s2 hne hr
  injection h with h;injection h with h1 h2;subst h1 h2
  obtain⟨k1,k2⟩:=resL_read P _ _ _ _ hr
  refine⟨k1,fun F hF ρ w tmps hi ht=>?_⟩
  obtain⟨l',e1,e2⟩:=k2 F hF ρ w tmps hi ht
  have hlen: ¬l'.length=1:=by
   rw[←e2.length]
   intro h1
   cases l with
   |nil=>cases h1
   |cons x l=>cases l with
    |nil=>exact hne x rfl
    |cons _ _=>simp at h1
  refine⟨.tuple ⟨l'⟩,?_,.tuple_of e2.arel⟩
  rw[key _ w tmps e1,dif_neg hlen]
 ·cases h
end Go.Canon
namespace Go.Canon
variable [Ghosts]
def takeAll:List Nat→St→Option St
 |[],s=>some s
 |d::ds,s=>match takeC s d with
  |some s1=>takeAll ds s1
  |none=>none
section
variable {P:Program} {b:Frame} {cs:List Frame} {w w1:World} {todo k:List Item}
theorem step_collect{tmps:Array Value}{d':Nat}{ds:List Deferred}(hr:(Instr.takeDeferred d').run P w=.ok [] w1):
 step P (lone {b.atR {tmps,defers:={target:=.collected d',args:= #[]}::ds} todo with mode:=.returning} cs w)=.next (lone {b.atR {tmps,defers:=ds} todo with mode:=.returning} cs w1):=
 step_lone_go (by simp[stepG,unwind,Frame.atR,Sem.runT_eq,hr])
theorem stepR_scope{c:Code}{a:Act}:step P (lone (b.atR a (.code (.scope c)::k)) cs w)=.next (lone (b.atR a (.code c::.inScope c::k)) cs w):=
 step_lone_go (by simp[stepG,stepG.exec,Frame.atR])
theorem stepR_inScope{c:Code}{a:Act}:step P (lone (b.atR a (.inScope c::k)) cs w)=.next (lone (b.atR a k) cs w):=
 step_lone_go (by simp[stepG,stepG.exec,Frame.atR])
theorem stepR_endRangeFunc{l:Nat}{jump:Option Code}{a:Act}(hr:(Instr.endLoop l).run P w=.ok jump w1):
 step P (lone (b.atR a (.endRangeFunc l::k)) cs w)=.next (lone (b.atR a ((jump.map Item.code).toList++k)) cs w1):=
 step_lone_go (by simp[stepG,stepG.exec,Frame.atR,Sem.runT_eq,hr])
theorem stepR_rangeFunc{g:Operand}{params:Array Tmp}{assign body:Code}{a:Act}{l gf:Nat}{mark:List Deferred}{args:Array Value}
 (hr:(Instr.enterLoop b.fn a.tmps params assign body b.roundOf).run P w=.ok (l,mark) w1)
 (hi:(do let d←resolve a.eval {callee:=.value g,args:= #[.const (.func (.yield l) #[] #[])],argTypes:= #[]} 0;invoke d.target d.args:Sem Next).run P w1=.ok (.enter gf args) w1):
 step P (lone (b.atR a (.code (.rangeFunc g params assign body)::k)) cs w)=.next (lone (Frame.enter P gf args .normal) (b.atR {a with defers:=mark++a.defers} (.inRangeFunc l::k)::cs) w1):=
 step_lone_go (by
  have he:({fn:=b.fn,tmps:=a.tmps,todo:=.inRangeFunc l::k,defers:=mark++a.defers,mode:=.run,kind:=b.kind,roundOf:=b.roundOf}:Frame).eval=a.eval:=funext fun x=>by cases x<;>rfl
  rw[Sem.run_bind]at hi
  simp only[stepG,stepG.exec,Frame.atR,Sem.runT_eq,hr,stepG.apply,he,Sem.run_bind,hi,if_true]
  simp)
end
theorem takeAll_ok(P:Program): ∀(ds:List Nat) (s s1:St),takeAll ds s=some s1→Mono s s1∧ ∀F,Fp.Sub s1.fp F→ ∀ρ w (tmps:Array Value) (ds':List Deferred),Fresh ρ s s1→Inv F ρ s w→DRel ρ ds ds'→
 ∃w1,Inv F ρ s1 w1∧Ext s1.w ρ ρ s s1 w w1∧ ∀(b:Frame) (todo:List Item) (cs:List Frame),
  Steps P (lone {b.atR {tmps,defers:=ds'} todo with mode:=.returning} cs w) (lone {b.atR {tmps,defers:=[]} todo with mode:=.returning} cs w1)
 |[],s,s1,h=>by
  simp only[takeAll]at h;injection h with h;subst h
  refine⟨.refl _,fun F _ ρ w tmps ds' _ hi hd=>?_⟩
  cases ds' with
  |nil=>exact⟨w,hi,.refl _ _ _ _,fun b todo cs=>.refl _ _⟩
  |cons _ _=>exact hd.elim
 |d::ds,s,s1,h=>by
  simp only[takeAll]at h
  split at h
  ·rename_i s2 ht
   obtain⟨m1,h1⟩:=takeC_ok P ht
   obtain⟨m2,h2⟩:=takeAll_ok P ds s2 s1 h
   refine⟨m1.trans m2,fun F hF ρ w tmps ds' hf hi hd=>?_⟩
   cases ds' with
   |nil=>exact hd.elim
   |cons e es=>
    obtain⟨⟨d',hd1,rfl⟩,hd2⟩:=hd
    obtain⟨ρ1,w1,i1,e1,rfl,hr⟩:=h1 F (m2.fp.trans hF) ρ w () (hf.fst m2.n) hi trivial
    obtain⟨w2,i2,e2,hst⟩:=h2 F hF ρ1 w1 tmps es (hf.snd e1) i1 hd2
    exact⟨w2,i2,(e1.wider m2.w).trans e2,fun b todo cs=>.head (step_collect (hr d' hd1)) (hst b todo cs)⟩
  ·cases h
def plainEnd:Option Code→Bool
 |none=>true
 |some .ret=>true
 |_=>false
def leaveC(P:Program)(fr:CF)(jump:Option Code)(s:St):Option (Value×St):=
 match fr.ro with
 |some l=>endRoundC s l jump
 |none=>if plainEnd jump then
  match P.funcs[fr.fn]? with
  |some fn=>match takeAll fr.defers s with
   |some s1=>resC P fn fr.tm s1
   |none=>none
  |none=>none
  else none
def AtEnd(jump:Option Code)(todo:List Item):Prop:=
 (jump=none∧todo=[])∨(jump=some .ret∧ ∃k,todo=.code .ret::k)∨(∃id k,jump=some (.exit id)∧todo=.code (.exit id)::k∧exitTo id k=none)∨ ∃t k,jump=some (.goto t)∧todo=.code (.goto t)::k∧gotoIn t k=none
theorem leaveC_ok(P:Program){fr:CF}{jump:Option Code}{s s1:St}{v:Value}(h:leaveC P fr jump s=some (v,s1))(hat:AtEnd jump fr.todo):
 Mono s s1∧ ∀F,Fp.Sub s1.fp F→ ∀ρ w b a,Fresh ρ s s1→Inv F ρ s w→FRel ρ fr b a→ ∀cs,
  ∃ρ1 w1 v',Inv F ρ1 s1 w1∧Ext s1.w ρ ρ1 s s1 w w1∧VRel ρ1 v v'∧Ends P (b.atR a fr.todo) w v' w1 cs:=by
 unfold leaveC at h
 split at h
 ·rename_i l hro
  obtain⟨hv,m,hm⟩:=endRoundC_ok P h
  refine⟨m,fun F hF ρ w b a hf hi hfr cs=>?_⟩
  obtain⟨ρ1,w1,i1,e1,rfl,hr⟩:=hm F hF ρ w () hf hi trivial
  rcases hfr.ro with⟨h1,_⟩|⟨l2,l',h1,h2,h3⟩
  ·rw[hro]at h1;cases h1
  ·rw[hro]at h1
   injection h1 with h1
   subst h1
   have hrun:=hr l' h3
   refine⟨ρ1,w1,.bool jump.isNone,i1,e1,by rw[hv];exact .bool _,⟨fun h0=>?_,fun c cs' e=>e▸.one ?_⟩⟩
   ·have:(b.atR a fr.todo).roundOf=b.roundOf:=rfl
    rw[this,h2]at h0;cases h0
   ·rcases hat with⟨rfl,h5⟩|⟨rfl,k,h5⟩|⟨id,k,rfl,h5,h6⟩|⟨t,k,rfl,h5,h6⟩
    ·rw[h5];exact stepR_round_end h2 hfr.kind hrun
    ·rw[h5];exact stepR_round_ret h2 hfr.kind hrun
    ·rw[h5];exact stepR_round_exit h2 hfr.kind h6 hrun
    ·rw[h5];exact stepR_round_goto h2 hfr.kind h6 hrun
 ·rename_i hro
  split at h
  ·rename_i hj
   split at h
   ·rename_i fn hfn
    split at h
    ·rename_i s2 ht
     obtain⟨m1,h1⟩:=takeAll_ok P _ _ _ ht
     obtain⟨r1,h2⟩:=resC_read P h
     refine⟨m1.trans r1.1,fun F hF ρ w b a hf hi hfr cs=>?_⟩
     obtain⟨w1,i1,e1,hst⟩:=h1 F (r1.1.fp.trans hF) ρ w a.tmps a.defers (hf.fst r1.1.n) hi hfr.defers
     obtain⟨v',hv1,hv2⟩:=h2 F hF ρ w1 a.tmps i1 hfr.tm.2
     have hb0:b.roundOf=none:=by
      rcases hfr.ro with⟨_,h3⟩|⟨l2,l',h3,_⟩
      ·exact h3
      ·rw[hro]at h3;cases h3
     refine⟨ρ,w1,v',r1.inv i1,(e1.wider r1.1.w).trans r1.ext,hv2,.of_leave ?_⟩
     have h3:step P (lone (b.atR a fr.todo) cs w)=.next (lone {b.atR a fr.todo with mode:=.returning} cs w):=by
      rcases hat with⟨rfl,h5⟩|⟨rfl,k,h5⟩|⟨id,k,rfl,h5,h6⟩|⟨t,k,rfl,h5,h6⟩
      ·rw[h5];exact stepR_end hb0
      ·rw[h5];exact stepR_ret hb0
      ·cases hj
      ·cases hj
     refine⟨{b.atR {tmps:=a.tmps,defers:=[]} fr.todo with mode:=.returning},.head h3 (hst b fr.todo cs),rfl,rfl,rfl,hfr.kind,fn,?_,hv1⟩
     show P.funcs[b.fn]?=some fn
     rw[hfr.fn];exact hfn
    ·cases h
   ·cases h
  ·cases h
theorem addDefd_ok(P:Program)(s:St)(hn:s.n+1<2^40){α:Type}{pre:Map→α→Prop}:Simu P s (s.add .defd) pre (fun _=>newObj (.deferred (some []))) (fun ρ r=>ρ s.n=.hard r):=
 moves_add s _ hn fun _ w _ _=>⟨.hard w.heap.size,.deferred (some []),rfl,fun _ _ _ h1 h2=>.defd _ h1 h2,fun _=>⟨w.heap.size,rfl,Map.put_self _ _ _⟩⟩
theorem addLoop_ok(P:Program)(s:St)(hn:s.n+1<2^40)(fn:FuncId)(tm:Tree Value)(sz:Nat)(ps:Array Tmp)(as bo:Code)(d:Nat):
 Simu P s (s.add (.loop .ready none fn tm sz ps as bo d)) (fun ρ (x:Array Value×Nat)=>TRel ρ tm sz x.1∧ρ d=.hard x.2) (fun x=>newObj (.loop {state:=.ready,pending:=none,fn,tmps:=x.1,params:=ps,assign:=as,body:=bo,defers:=x.2})) (fun ρ r=>ρ s.n=.hard r):=
 moves_add s _ hn fun _ w x hx=>⟨.hard w.heap.size,_,rfl,fun _ _ hl h1 h2=>.loop _ _ _ _ _ _ _ _ _ _ x.1 x.2 h1 (hl.hard hx.2) (hx.1.mono hl) h2,fun _=>⟨w.heap.size,rfl,Map.put_self _ _ _⟩⟩
def enterLoopC(s:St)(fn:FuncId)(tm:Tree Value)(sz:Nat)(ps:Array Tmp)(as bo:Code)(ro:Option Nat):Option (Nat×List Nat×St):=
 if s.n+2<2^40 then match ro with
  |none=>some (s.n+1,[s.n],(s.add .defd).add (.loop .ready none fn tm sz ps as bo s.n))
  |some l0=>match loopAt s l0 with
   |some (_,_,_,_,_,_,_,_,df)=>some (s.n,[],(s.rd l0).add (.loop .ready none fn tm sz ps as bo df))
   |none=>none
 else none
theorem enterLoopC_ok(P:Program){s s1:St}{fn:FuncId}{tm:Tree Value}{sz:Nat}{ps:Array Tmp}{as bo:Code}{ro:Option Nat}{l:Nat}{mark:List Nat}(h:enterLoopC s fn tm sz ps as bo ro=some (l,mark,s1)):
 Moves s s1 (fun ρ (x:Array Value×Option Nat)=>TRel ρ tm sz x.1∧((ro=none∧x.2=none)∨ ∃l l',ro=some l∧x.2=some l'∧ρ l=.hard l'))
  fun _ w x ρ1 w1=> ∃l' mark',(Instr.enterLoop fn x.1 ps as bo x.2).run P w=.ok (l',mark') w1∧ρ1 l=.hard l'∧DRel ρ1 mark mark':=by
 unfold enterLoopC at h
 split at h
 ·rename_i hn
  split at h
  ·injection h with h;injection h with h1 h;injection h with h2 h3
   subst h1 h2 h3
   have hs:=Simu.bind (k:=fun(x:Array Value×Option Nat) (d:Nat)=>newObj (.loop {state:=.ready,pending:=none,fn,tmps:=x.1,params:=ps,assign:=as,body:=bo,defers:=d})>>=fun r=>pure (r,d))
    (addDefd_ok P s (by omega) (pre:=fun ρ (x:Array Value×Option Nat)=>TRel ρ tm sz x.1∧x.2=none)) (fun ρ ρ1 x hl hx=>⟨hx.1.mono hl,hx.2⟩)
    (post2:=fun ρ r=>ρ (s.n+1)=.hard r.1∧ρ s.n=.hard r.2)
    ((addLoop_ok P (s.add .defd) (by simp only[St.add];omega) fn tm sz ps as bo s.n).use (fun z=>(z.1.1,z.2)) (fun z r=>(r,z.2)) (fun ρ z hz=>⟨hz.1.1,hz.2⟩) (fun ρ w z _=>by rw[Sem.run_bind];rfl) (fun ρ ρ1 z r hl hz hp=>⟨hp,hl.hard hz.2⟩))
   obtain⟨m,hm⟩:=hs
   refine⟨m,fun F hF ρ w x hf hi hx=>?_⟩
   have hx2:x.2=none:=by
    rcases hx.2 with⟨_,h1⟩|⟨l,l',h1,_⟩
    ·exact h1
    ·cases h1
   obtain⟨ρ1,w1,i1,e1,r,hr,hp⟩:=hm F hF ρ w x hf hi ⟨hx.1,hx2⟩
   refine⟨ρ1,w1,i1,e1,r.1,[{target:=.collected r.2,args:= #[]}],?_,hp.1,⟨r.2,hp.2,rfl⟩,trivial⟩
   rw[hx2]
   unfold Instr.enterLoop
   simp only[Sem.run_bind,run_newObj,Result.andThen_ok,Sem.run_pure]at hr⊢
   injection hr with h1 h2
   subst h1 h2
   rfl
  ·rename_i l0
   split at h
   ·rename_i df hl0
    injection h with h;injection h with h1 h;injection h with h2 h3
    subst h1 h2 h3
    obtain⟨l1,l2,l3⟩:=loopAt_get hl0
    have hrd:Simu P s (s.rd l0) (fun ρ (x:Array Value×Option Nat)=>TRel ρ tm sz x.1∧ ∃l',x.2=some l'∧ρ l0=.hard l') (fun x=>(do pure (←Instr.getLoop (x.2.getD 0)).defers:Sem Nat)) (fun ρ r=>ρ df=.hard r):=by
     refine moves_rd s l0 fun ρ w x hx hat _=>?_
     obtain⟨_,l',hx2,hx3⟩:=hx
     have hA:=hat l1
     rw[l3]at hA
     cases hA with
     |loop b' _ _ _ _ _ _ _ _ _ tmps d' k1 k2 k3 k4=>
      rw[k1]at hx3
      injection hx3 with hx3
      subst hx3
      refine⟨d',?_,k2⟩
      dsimp only
      rw[hx2]
      simp only[Option.getD_some,Sem.run_bind,run_getLoop k4,Result.andThen_ok,Sem.run_pure]
    have hs:=Simu.bind (k:=fun(x:Array Value×Option Nat) (d:Nat)=>newObj (.loop {state:=.ready,pending:=none,fn,tmps:=x.1,params:=ps,assign:=as,body:=bo,defers:=d}))
     hrd (fun ρ ρ1 x hl hx=>⟨hx.1.mono hl,hx.2.imp fun l' h=>⟨h.1,hl.hard h.2⟩⟩)
     ((addLoop_ok P (s.rd l0) (by simp only[St.rd];omega) fn tm sz ps as bo df).use (fun z=>(z.1.1,z.2)) (fun z r=>r) (fun ρ z hz=>⟨hz.1.1,hz.2⟩) (fun ρ w z _=>rfl) (fun ρ ρ1 z r hl hz hp=>hp))
    obtain⟨m,hm⟩:=hs
    refine⟨m,fun F hF ρ w x hf hi hx=>?_⟩
    obtain⟨l',hx2,hx3⟩: ∃l',x.2=some l'∧ρ l0=.hard l':=by
     rcases hx.2 with⟨h1,_⟩|⟨l,l',h1,h2,h3⟩
     ·cases h1
     ·injection h1 with h1;subst h1;exact⟨l',h2,h3⟩
    obtain⟨ρ1,w1,i1,e1,r,hr,hp⟩:=hm F hF ρ w x hf hi ⟨hx.1,l',hx2,hx3⟩
    refine⟨ρ1,w1,i1,e1,r,[],?_,hp,trivial⟩
    dsimp only at hr
    rw[hx2]at hr⊢
    unfold Instr.enterLoop
    simp only[Option.getD_some,Sem.run_bind,andThen_assoc,Sem.run_pure,Result.andThen_ok]at hr⊢
    cases hg:(Instr.getLoop l').run P w with
    |ok q w2=>
     rw[hg]at hr
     simp only[Result.andThen_ok,run_newObj]at hr⊢
     injection hr with h1 h2
     subst h1 h2
     rfl
    |halt q w2=>rw[hg]at hr;cases hr
   ·cases h
 ·cases h
end Go.Canon
namespace Go.Canon
variable [Ghosts]
def run(P:Program):Nat→CF→St→Option (Value×St)
 |0,_,_=>none
 |f+1,fr,s=>
  match fr.todo with
  |[]=>leaveC P fr none s
  |.code .ret::_=>leaveC P fr (some .ret) s
  |.code .skip::k=>run P f {fr with todo:=k} s
  |.code (.label _)::k=>run P f {fr with todo:=k} s
  |.code (.seq x y)::k=>run P f {fr with todo:=.code x::.code y::k} s
  |.code (.cond c x y)::k=>if okOper P c then match evT fr.tm c with
   |.bool t=>run P f {fr with todo:=.code (if t then x else y)::k} s
   |_=>none
   else none
  |.code (.block id c)::k=>run P f {fr with todo:=.code c::.inBlock id::k} s
  |.code (.loop c)::k=>run P f {fr with todo:=.code c::.inLoop c::k} s
  |.code (.scope c)::k=>run P f {fr with todo:=.code c::.inScope c::k} s
  |.code (.exit id)::k=>match exitTo id k with
   |some k'=>run P f {fr with todo:=k'} s
   |none=>leaveC P fr (some (.exit id)) s
  |.code (.goto t)::k=>match gotoIn t k with
   |some k'=>run P f {fr with todo:=k'} s
   |none=>leaveC P fr (some (.goto t)) s
  |.code (.region _ ops false)::k=>match doOps P (run P f) ops fr.sz ops.toList fr.tm s with
   |some (tm,s1)=>run P f {fr with tm:=tm,todo:=k} s1
   |none=>none
  |.code (.region _ ops true)::k=>if okRegion ops then match doOpsD P (run P f) ops fr.sz ops.toList fr.tm s with
   |some (l,tm,s1)=>if confAll (bef ops) [] l then run P f {fr with tm:=tm,todo:=k} s1 else none
   |none=>none
   else none
  |.code (.rangeFunc g ps as bo)::k=>if okOper P g then match enterLoopC s fr.fn fr.tm fr.sz ps as bo fr.ro with
   |some (l,mark,s1)=>match evT fr.tm g with
    |.func (.func gf) first cap=>match enterC P gf (first++ #[.func (.yield l) #[] #[]]++cap)with
     |some gr=>match run P f gr s1 with
      |some (_,s2)=>match endLoopC s2 l with
       |some (jump,s3)=>run P f {fr with defers:=mark++fr.defers,todo:=(jump.map Item.code).toList++k} s3
       |none=>none
      |none=>none
     |none=>none
    |_=>none
   |none=>none
   else none
  |.inBlock _::k=>run P f {fr with todo:=k} s
  |.inScope _::k=>run P f {fr with todo:=k} s
  |.inLoop c::k=>run P f {fr with todo:=.code c::.inLoop c::k} s
  |.beginRound::k=>match fr.ro with
   |some l=>match beginRoundC s l with
    |some s1=>run P f {fr with todo:=k} s1
    |none=>none
   |none=>none
  |_=>none
theorem DRel.append{ρ:Map}: ∀{a b:List Nat} {a' b':List Deferred},DRel ρ a a'→DRel ρ b b'→DRel ρ (a++b) (a'++b')
 |[],_,[],_,_,h=>h
 |_::_,_,_::_,_,⟨h1,h2⟩,h=>⟨h1,DRel.append h2 h⟩
theorem run_ok{P:Program}(hP:NG P)(hm:P.follows .mixedOrders=true): ∀f,RunOk P (run P f):=by
 intro f
 induction f with
 |zero=>intro fr s v s1 h;cases h
 |succ f ih=>
  have step1: ∀{fr:CF} {s s1:St} {v:Value} (k':List Item),run P f {fr with todo:=k'} s=some (v,s1)→
   (∀ρ b a w,GR P ρ→FRel ρ fr b a→ ∀cs,step P (lone (b.atR a fr.todo) cs w)=.next (lone (b.atR a k') cs w))→
   Mono s s1∧ ∀F,Fp.Sub s1.fp F→ ∀ρ w b a,Fresh ρ s s1→Inv F ρ s w→GR P ρ→FRel ρ fr b a→ ∀cs,∃ρ1 w1 v',Inv F ρ1 s1 w1∧Ext s1.w ρ ρ1 s s1 w w1∧VRel ρ1 v v'∧Ends P (b.atR a fr.todo) w v' w1 cs:=by
   intro fr s s1 v k' h hs
   obtain⟨m,hm⟩:=ih _ _ _ _ h
   refine⟨m,fun F hF ρ w b a hf hi hg hfr cs=>?_⟩
   obtain⟨ρ1,w1,v',i1,e1,hv,hend⟩:=hm F hF ρ w b a hf hi hg ⟨hfr.fn,hfr.kind,hfr.ro,hfr.tm,hfr.defers⟩ cs
   exact⟨ρ1,w1,v',i1,e1,hv,hend.of_steps rfl rfl (.one (hs ρ b a w hg hfr cs))⟩
  intro fr s v s1 h
  unfold run at h
  split at h
  ·rename_i ht
   obtain⟨m,hl⟩:=leaveC_ok P h (.inl ⟨rfl,ht⟩)
   exact⟨m,fun F hF ρ w b a hf hi _ hfr=>hl F hF ρ w b a hf hi hfr⟩
  ·rename_i k ht
   obtain⟨m,hl⟩:=leaveC_ok P h (.inr (.inl ⟨rfl,k,ht⟩))
   exact⟨m,fun F hF ρ w b a hf hi _ hfr=>hl F hF ρ w b a hf hi hfr⟩
  ·rename_i k ht;exact step1 _ h fun ρ b a w _ _ cs=>by rw[ht];exact stepR_skip
  ·rename_i l k ht;exact step1 _ h fun ρ b a w _ _ cs=>by rw[ht];exact stepR_label
  ·rename_i x y k ht;exact step1 _ h fun ρ b a w _ _ cs=>by rw[ht];exact stepR_seq
  ·rename_i c x y k ht
   split at h
   ·rename_i hok
    split at h
    ·rename_i t hc
     refine step1 _ h fun ρ b a w hg hfr cs=>?_
     rw[ht]
     have h1:=evT_rel hg (tm:=fr.tm) (a:=a) (x:=c) (fun t _=>hfr.tm.2 t) hok
     rw[hc]at h1
     exact stepR_cond h1.bool_inv
    ·cases h
   ·cases h
  ·rename_i id c k ht;exact step1 _ h fun ρ b a w _ _ cs=>by rw[ht];exact stepR_block
  ·rename_i c k ht;exact step1 _ h fun ρ b a w _ _ cs=>by rw[ht];exact stepR_loop
  ·rename_i c k ht;exact step1 _ h fun ρ b a w _ _ cs=>by rw[ht];exact stepR_scope
  ·rename_i id k ht
   split at h
   ·rename_i k' hk;exact step1 _ h fun ρ b a w _ _ cs=>by rw[ht];exact stepR_exit hk
   ·rename_i hk
    obtain⟨m,hl⟩:=leaveC_ok P h (.inr (.inr (.inl ⟨id,k,rfl,ht,hk⟩)))
    exact⟨m,fun F hF ρ w b a hf hi _ hfr=>hl F hF ρ w b a hf hi hfr⟩
  ·rename_i t k ht
   split at h
   ·rename_i k' hk;exact step1 _ h fun ρ b a w _ _ cs=>by rw[ht];exact stepR_goto hk
   ·rename_i hk
    obtain⟨m,hl⟩:=leaveC_ok P h (.inr (.inr (.inr ⟨t,k,rfl,ht,hk⟩)))
    exact⟨m,fun F hF ρ w b a hf hi _ hfr=>hl F hF ρ w b a hf hi hfr⟩
  ·rename_i id ops k ht
   split at h
   ·rename_i tm s2 hops
    obtain⟨m1,h1⟩:=doOps_ok hP ih.e ops.toList 0 fr.tm tm s s2 rfl (by simp) hops
    obtain⟨m2,h2⟩:=ih _ _ _ _ h
    refine⟨m1.trans m2,fun F hF ρ w b a hf hi hg hfr cs=>?_⟩
    obtain⟨ρ1,w1,a1,i1,e1,ht1,hd1,hst⟩:=h1 F (m2.fp.trans hF) ρ w a (hf.fst m2.n) hi hg hfr.tm b k cs
    have hfr1:=hfr.mono e1.le
    obtain⟨ρ2,w2,v',i2,e2,hv,hend⟩:=h2 F hF ρ1 w1 b a1 (hf.snd e1) i1 (hg.mono e1.le) ⟨hfr1.fn,hfr1.kind,hfr1.ro,ht1,by rw[hd1];exact hfr1.defers⟩ cs
    refine⟨ρ2,w2,v',i2,(e1.wider m2.w).trans e2,hv,hend.of_steps rfl rfl ?_⟩
    rw[ht]
    have:=hst
    rw[Array.length_toList,←List.range_eq_range']at this
    exact .head stepR_region this
   ·cases h
  ·rename_i id ops k ht
   split at h
   ·rename_i hok
    split at h
    ·rename_i l tm s2 hops
     split at h
     ·rename_i hc
      obtain⟨m1,h1⟩:=doOpsD_ok hP hm ih.e hops hok hc
      obtain⟨m2,h2⟩:=ih _ _ _ _ h
      refine⟨m1.trans m2,fun F hF ρ w b a hf hi hg hfr cs=>?_⟩
      obtain⟨ρ1,w1,a1,i1,e1,ht1,hd1,hst⟩:=h1 F (m2.fp.trans hF) ρ w a (hf.fst m2.n) hi hg hfr.tm id b.fn b k cs rfl
      have hfr1:=hfr.mono e1.le
      obtain⟨ρ2,w2,v',i2,e2,hv,hend⟩:=h2 F hF ρ1 w1 b a1 (hf.snd e1) i1 (hg.mono e1.le) ⟨hfr1.fn,hfr1.kind,hfr1.ro,ht1,by rw[hd1];exact hfr1.defers⟩ cs
      refine⟨ρ2,w2,v',i2,(e1.wider m2.w).trans e2,hv,hend.of_steps rfl rfl ?_⟩
      rw[ht]
      exact hst
     ·cases h
    ·cases h
   ·cases h
  ·rename_i g ps as bo k ht
   split at h
   ·rename_i hok
    split at h
    ·rename_i l mark s2 hel
     split at h
     ·rename_i gf first cap hg0
      split at h
      ·rename_i gr hgr
       split at h
       ·rename_i v2 s3 hrun
        split at h
        ·rename_i jump s4 hend
         obtain⟨m1,h1⟩:=enterLoopC_ok P hel
         obtain⟨m2,h2⟩:=ih _ _ _ _ hrun
         obtain⟨m3,h3⟩:=endLoopC_ok P hend
         obtain⟨m4,h4⟩:=ih _ _ _ _ h
         have hbody: ∃fn c,P.funcs[gf]?=some fn∧fn.body=some c:=by
          unfold enterC at hgr
          split at hgr
          ·rename_i fn hf
           split at hgr
           ·rename_i c hc;exact⟨fn,c,hf,hc⟩
           ·cases hgr
          ·cases hgr
         obtain⟨fn0,c0,hf0,hc0⟩:=hbody
         refine⟨((m1.trans m2).trans m3).trans m4,fun F hF ρ w b a hf hi hg hfr cs=>?_⟩
         have F3:=m4.fp.trans hF
         have F2:=m3.fp.trans F3
         have F1:=m2.fp.trans F2
         have fr0:Fresh ρ s s4:=hf.fst m4.n
         obtain⟨ρ1,w1,i1,e1,l',mark',r1,r2,r3⟩:=h1 F F1 ρ w (a.tmps,b.roundOf) ((fr0.fst m3.n).fst m2.n) hi ⟨hfr.tm,hfr.ro⟩
         have hgv:=evT_rel (hg.mono e1.le) (tm:=fr.tm) (a:=a) (x:=g) (fun t _=>(hfr.tm.mono e1.le).2 t) hok
         rw[hg0]at hgv
         obtain⟨x',y',hx,hx1,hx2⟩:=hgv.func_inv
         have hy:ARel ρ1 #[.func (.yield l) #[] #[]] #[.func (.yield l') #[] #[]]:=LRel.arel (l:=[.func (.yield l) #[] #[]]) (l':=[.func (.yield l') #[] #[]]) ⟨.yield l l' r2,trivial⟩
         obtain⟨b2,a2,hb2,hr2⟩:=enterC_ok hgr ((hx1.append hy).append hx2)
         obtain⟨ρ2,w2,u',i2,e2,_,hend2⟩:=h2 F F2 ρ1 w1 b2 a2 ((fr0.fst m3.n).snd e1) i1 (hg.mono e1.le) hr2 (b.atR {a with defers:=mark'++a.defers} (.inRangeFunc l'::k)::cs)
         have e12:=(e1.wider m2.w).trans e2
         obtain⟨ρ3,w3,i3,e3,rfl,hl3⟩:=h3 F F3 ρ2 w2 () (fr0.snd e12) i2 trivial
         have e123:=(e12.wider m3.w).trans e3
         have hfr3:=hfr.mono e123.le
         obtain⟨ρ4,w4,v',i4,e4,hv,hend4⟩:=h4 F hF ρ3 w3 b {a with defers:=mark'++a.defers} (hf.snd e123) i3 (hg.mono e123.le)
          ⟨hfr3.fn,hfr3.kind,hfr3.ro,hfr3.tm,(r3.mono (e2.le.trans e3.le)).append hfr3.defers⟩ cs
         refine⟨ρ4,w4,v',i4,(e123.wider m4.w).trans e4,hv,hend4.of_steps rfl rfl ?_⟩
         rw[ht]
         have hinv:(do let d←resolve a.eval {callee:=.value g,args:= #[.const (.func (.yield l') #[] #[])],argTypes:= #[]} 0;invoke d.target d.args:Sem Next).run P w1=.ok (.enter gf (x'++ #[.func (.yield l') #[] #[]]++y')) w1:=by
          have em:(#[Operand.const (.func (.yield l') #[] #[])]:Array Operand).map a.eval= #[.func (.yield l') #[] #[]]:=by simp[Act.eval]
          simp only[resolve,em,hx,Deferred.ofValue,invoke,Sem.run_bind,Sem.run_pure,Result.andThen_ok,run_callFunc hP hf0 (by rw[hc0];rfl)]
         have rr:(Instr.enterLoop b.fn a.tmps ps as bo b.roundOf).run P w=.ok (l',mark') w1:=by rw[hfr.fn];exact r1
         have s1':=stepR_rangeFunc (cs:=cs) (k:=k) (b:=b) (a:=a) rr hinv
         rw[hb2]at s1'
         refine(Steps.head s1' (hend2.back _ cs rfl)).trans (.one ?_)
         exact stepR_endRangeFunc (b:=b) (a:={a with defers:=mark'++a.defers}) (hl3 l' (le.hard e2.le r2))
        ·cases h
       ·cases h
      ·cases h
     ·cases h
    ·cases h
   ·cases h
  ·rename_i id k ht;exact step1 _ h fun ρ b a w _ _ cs=>by rw[ht];exact stepR_inBlock
  ·rename_i c k ht;exact step1 _ h fun ρ b a w _ _ cs=>by rw[ht];exact stepR_inScope
  ·rename_i c k ht;exact step1 _ h fun ρ b a w _ _ cs=>by rw[ht];exact stepR_inLoop
  ·rename_i k ht
   split at h
   ·rename_i l hro
    split at h
    ·rename_i s2 hb
     obtain⟨m1,h1⟩:=beginRoundC_ok P hb
     obtain⟨m2,h2⟩:=ih _ _ _ _ h
     refine⟨m1.trans m2,fun F hF ρ w b a hf hi hg hfr cs=>?_⟩
     obtain⟨ρ1,w1,i1,e1,rfl,hr⟩:=h1 F (m2.fp.trans hF) ρ w () (hf.fst m2.n) hi trivial
     obtain⟨ρ2,w2,v',i2,e2,hv,hend⟩:=h2 F hF ρ1 w1 b a (hf.snd e1) i1 hg ⟨hfr.fn,hfr.kind,hfr.ro,hfr.tm,hfr.defers⟩ cs
     refine⟨ρ2,w2,v',i2,(e1.wider m2.w).trans e2,hv,hend.of_steps rfl rfl ?_⟩
     rw[ht]
     rcases hfr.ro with⟨h3,_⟩|⟨l2,l',h3,h4,h5⟩
     ·rw[hro]at h3;cases h3
     ·rw[hro]at h3
      injection h3 with h3
      subst h3
      exact .one (stepR_beginRound h4 (hr l' h5))
    ·cases h
   ·cases h
  ·cases h
end Go.Canon
namespace Go.Canon
variable [Ghosts]
open Go.RowKit
def base(P:Program):Map:=fun b=>if b<P.globals.size then .hard b else .none
def callR(P:Program)(fuel:Nat)(f:FuncId)(args:Array Value)(s:St):Option (Value×St):=
 match enterC P f args with
 |some fr=>run P fuel fr s
 |none=>none
def closedB(P:Program)(fuel:Nat)(f:FuncId)(args:Array Value)(s:St):Bool:=
 args.toList.all (ground 9)&&match callR P fuel f args s with
 |some (.bool true,s1)=>s1.w%2^s.n==0&&s1.cs.isEmpty
 |_=>false
theorem closed_ok{P:Program}(hP:NG P)(hm:P.follows .mixedOrders=true){fuel f:Nat}{args:Array Value}{s:St}(h:closedB P fuel f args s=true)(hn:P.globals.size≤s.n)
 (w:World) (hw:P.globals.size≤w.heap.size) (hat: ∀b,b<s.n→At (base P) w b (s.t.get b)):
 Calls P f args w fun e w1=>e=.returned (.bool true)∧Below w.heap.size w w1:=by
 unfold closedB callR at h
 rw[Bool.and_eq_true]at h
 obtain⟨hg,h⟩:=h
 split at h
 ·rename_i s1 hr
  split at hr
  ·rename_i fr hfr
   obtain⟨m,hrun⟩:=run_ok hP hm fuel fr s _ s1 hr
   obtain⟨b,a,he,hrel⟩:=enterC_ok hfr (ARel.ground (ρ:=base P) hg)
   have hro:fr.ro=none∧fr.fn=f:=by
    unfold enterC at hfr
    split at hfr
    ·split at hfr
     ·split at hfr
      ·injection hfr with hfr;subst hfr;exact⟨rfl,rfl⟩
      ·cases hfr
     ·cases hfr
    ·cases hfr
   have hb0:b.roundOf=none:=by
    rcases hrel.ro with⟨_,h3⟩|⟨l2,l',h3,_⟩
    ·exact h3
    ·rw[hro.1]at h3;cases h3
   rw[Bool.and_eq_true]at h
   obtain⟨h,hcs⟩:=h
   have hgood:s1.good:=fun c hc=>by
    rw[List.isEmpty_iff.1 hcs]at hc;cases hc
   have hinv:Inv s1.fp (base P) s w:=by
    refine⟨fun b hb _=>hat b hb,fun b c x h1 h2=>?_,fun b x h1=>?_,hgood⟩
    ·unfold base at h1 h2
     split at h1
     ·split at h2
      ·injection h1 with h1;injection h2 with h2;omega
      ·cases h2
     ·cases h1
    ·unfold base at h1
     split at h1
     ·injection h1 with h1;omega
     ·cases h1
   have hfresh:Fresh (base P) s s1:=fun b h1 _=>by unfold base;rw[if_neg (by omega)]
   have hgr:GR P (base P):=fun g hg=>by unfold base;rw[if_pos hg]
   intro cs
   obtain⟨ρ1,w1,v',i1,e1,hv,hend⟩:=hrun s1.fp (.refl _) (base P) w b a hfresh hinv hgr hrel cs
   have hv2:=hv.bool_inv
   subst hv2
   obtain⟨fr1,k1,k2,k3⟩:=hend.leave hb0
   have hno: ∀b,b<s.n→s1.w.testBit b=false:=by
    intro b hb
    have h1:s1.w%2^s.n=0:=by simpa using h
    have h2:=Nat.testBit_mod_two_pow s1.w s.n b
    rw[h1]at h2
    simp[hb]at h2
    exact h2
   refine⟨.returned (.bool true),w1,fr1,⟨rfl,e1.os,e1.tape,e1.output,e1.size,fun c hc=>e1.heap c hc fun b hb hw _=>?_⟩,?_,?_,k3⟩
   ·rw[hno b hb]at hw;cases hw
   ·rw[he];exact k1
   ·exact k2.trans (hrel.fn.trans hro.2)
  ·cases hr
 ·cases h
def roTree:List (Nat×List Value)→Tree CObj→Tree CObj
 |[],t=>t
 |p::l,t=>roTree l (t.set 40 p.1 (.ro p.2))
def roState(l:List (Nat×List Value))(n:Nat):St:={t:=roTree l .leaf,n:=n,r:=0,w:=0,an:=[],cs:=[]}
theorem roTree_get: ∀(l:List (Nat×List Value)) (t:Tree CObj) (b:Nat),(∀p∈l,p.1+1<2^40)→(roTree l t).get b=t.get b∨ ∃p∈l,p.1=b∧(roTree l t).get b=some (.ro p.2)
 |[],_,_,_=>.inl rfl
 |p::l,t,b,h=>by
  rw[roTree]
  rcases roTree_get l (t.set 40 p.1 (.ro p.2)) b (fun q hq=>h q (by simp[hq]))with h1|⟨q,h1,h2,h3⟩
  ·rw[h1,Tree.get_set 40 _ _ _ _ (h p (by simp))]
   by_cases e:b=p.1
   ·rw[if_pos e];exact .inr ⟨p,by simp,e.symm,rfl⟩
   ·rw[if_neg e];exact .inl rfl
  ·exact .inr ⟨q,by simp[h1],h2,h3⟩
end Go.Canon
namespace Go.Canon
variable [Ghosts]
open Go.RowKit Go.Lib
theorem laid_mem{P:Program}{w:World}{n:String}{d:DataW Unit}: ∀{laid:List (String×DataW Unit)} {ps:List MemPlace},DataW.LaidVars P w laid ps→(n,d)∈laid→
 ∃g t cs fuel p,P.globalNamed n=some g∧(P.globals[g]?).map (·.type)=some t∧w.var? P n=some cs∧DataW.trod (fun _=>()) P w 0 (fun _=>true) false fuel t cs.toList=some (d,p)
 |[],_,_,h=>by cases h
 |(n',d')::r,ps,⟨g,t,cs,fuel,p,q,h1,h2,h3,h4,h5,_⟩,h=>by
  cases h with
  |head _=>exact⟨g,t,cs,fuel,p,h1,h2,h3,h4⟩
  |tail _ h=>exact laid_mem h5 h
theorem tab_of_laid{P:Program}{W:World}{name:String}{k:IntKind}{zs:List Int}{laid:List (String×DataW Unit)}{g:Nat}{t e:TypeId}{n:Nat}
 (hm:(name,tabData k zs)∈laid) (hg:P.globalNamed name=some g) (hty:(P.globals[g]?).map (·.type)=some t) (ht:P.underlying t=some (.array n e)) (he:P.underlying e=some (.int k)) (hce:P.cellsOf e=1) (hct:P.cellsOf t=n)
 (h:laidMet P laid W): ∃e f,W.heap[g]?=some (.cells ⟨zs.map fun z=>Value.int k z⟩ e f):=by
 obtain⟨ps,hl,_⟩:=h
 obtain⟨g',t',cs,fuel,p,hg',ht',hvar,hd⟩:=laid_mem hl hm
 obtain rfl:=Option.some.inj (hg.symm.trans hg')
 obtain rfl:=Option.some.inj (hty.symm.trans ht')
 have hcs:=cells_of_tab ht he hce hct hd
 simp only[World.var?,hg,Option.bind_some]at hvar
 split at hvar
 ·rename_i c e f hh
  injection hvar with hvar
  subst hvar
  refine⟨e,f,?_⟩
  rw[hh,←hcs]
 ·cases hvar
def ngB(P:Program):Bool:=P.funcs.toList.all fun fn=>fn.body.isNone|| !(fn.name== "runtime.NumGoroutine")
theorem ng_of{P:Program}(h:ngB P=true):NG P:=by
 intro f fn hf hb
 unfold ngB at h
 rw[List.all_eq_true]at h
 have:=h fn (by
  have:=Array.mem_of_getElem? hf
  simpa using this)
 have h2:fn.body.isNone=false:=by cases e:fn.body<;>simp_all
 rw[h2,Bool.false_or]at this
 simpa using this
end Go.Canon
namespace Go.Canon
variable [Ghosts]
open Go.RowKit
def eqL(e:Value→Value→Bool):List Value→List Value→Bool
 |[],[]=>true
 |a::x,b::y=>match e a b with
  |true=>eqL e x y
  |false=>false
 |_,_=>false
theorem eqL_ok{e:Value→Value→Bool}(he: ∀a b,e a b=true→a=b): ∀{x y:List Value},eqL e x y=true→x=y
 |[],[],_=>rfl
 |a::x,b::y,h=>by
  simp only[eqL]at h
  split at h
  ·rename_i h1;rw[he _ _ h1,eqL_ok he h]
  ·cases h
 |[],_::_,h=>by cases h
 |_::_,[],h=>by cases h
def eqAd(a b:Addr):Bool:=a.block==b.block&&a.off==b.off&&a.spot.isNone&&b.spot.isNone
theorem eqAd_ok{a b:Addr}(h:eqAd a b=true):a=b:=by
 obtain⟨a1,a2,a3⟩:=a
 obtain⟨b1,b2,b3⟩:=b
 simp only[eqAd,Bool.and_eq_true,beq_iff_eq,Option.isNone_iff_eq_none]at h
 obtain⟨⟨⟨rfl,rfl⟩,rfl⟩,rfl⟩:=h
 rfl
def eqV:Nat→Value→Value→Bool
 |0,_,_=>false
 |_+1,.bool a,.bool b=>a==b
 |_+1,.int k a,.int l b=>decide (k=l)&&decide (a=b)
 |_+1,.string a,.string b=>decide (a.data=b.data)
 |_+1,.pointer none,.pointer none=>true
 |_+1,.pointer (some a),.pointer (some b)=>eqAd a b
 |_+1,.slice none l c,.slice none m d=>l==m&&c==d
 |_+1,.slice (some a) l c,.slice (some b) m d=>eqAd a b&&l==m&&c==d
 |_+1,.nilIface,.nilIface=>true
 |_+1,.nilFunc,.nilFunc=>true
 |d+1,.iface t a,.iface u b=>t==u&&eqV d a b
 |d+1,.agg a,.agg b=>eqL (eqV d) a.toList b.toList
 |d+1,.tuple a,.tuple b=>eqL (eqV d) a.toList b.toList
 |d+1,.func (.func f) x y,.func (.func g) u v=>f==g&&eqL (eqV d) x.toList u.toList&&eqL (eqV d) y.toList v.toList
 |_,_,_=>false
theorem eqV_ok: ∀(d:Nat) (a b:Value),eqV d a b=true→a=b
 |0,_,_,h=>by cases h
 |d+1,a,b,h=>by
  unfold eqV at h
  split at h<;>first|(cases h;done)|skip
  ·simp only[beq_iff_eq]at h;rw[h]
  ·simp only[Bool.and_eq_true,decide_eq_true_eq]at h;rw[h.1,h.2]
  ·rw[ByteArray.ext (of_decide_eq_true h)]
  ·rfl
  ·rw[eqAd_ok h]
  ·simp only[Bool.and_eq_true,beq_iff_eq]at h;rw[h.1,h.2]
  ·simp only[Bool.and_eq_true,beq_iff_eq]at h;rw[eqAd_ok h.1.1,h.1.2,h.2]
  ·rfl
  ·rfl
  ·rename_i hd;injection hd with hd;subst hd;simp only[Bool.and_eq_true,beq_iff_eq]at h;rw[h.1,eqV_ok _ _ _ h.2]
  ·rename_i hd;injection hd with hd;subst hd;rw[Array.ext' (eqL_ok (eqV_ok _) h)]
  ·rename_i hd;injection hd with hd;subst hd;rw[Array.ext' (eqL_ok (eqV_ok _) h)]
  ·rename_i hd;injection hd with hd;subst hd;simp only[Bool.and_eq_true,beq_iff_eq]at h
   rw[h.1.1,Array.ext' (eqL_ok (eqV_ok _) h.1.2),Array.ext' (eqL_ok (eqV_ok _) h.2)]
def InvA(ρ:Map)(s:St)(w:World):Prop:= ∀F:Fp,F.ok→Inv F ρ s w
theorem cover(n m:Nat): ∀b,b<n→((2^n-1)|||m).testBit b=true:=fun b hb=>by
 rw[Nat.testBit_or,Nat.testBit_two_pow_sub_one,decide_eq_true hb,Bool.true_or]
end Go.Canon
