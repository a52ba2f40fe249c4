/-
  More operations: structs and slices that are built, copy, bytes to a string.
-/
import Derived.Test.YtedhbbjlbgpafaaGreatDoorP01
set_option linter.unusedVariables false
set_option linter.unusedSimpArgs false
set_option linter.unusedSectionVars false
namespace Go.Canon
variable [Ghosts]
theorem ARel.setIfInBounds{ρ:Map}{x x':Array Value}(h:ARel ρ x x')(i:Nat){v v':Value}(hv:VRel ρ v v'):ARel ρ (x.setIfInBounds i v) (x'.setIfInBounds i v'):=by
 refine⟨by simp[h.1],fun j h1 h2=>?_⟩
 rw[Array.getElem_setIfInBounds (by simpa using h1),Array.getElem_setIfInBounds (by simpa using h2)]
 split
 ·exact hv
 ·exact h.2 j _ _
theorem lay_rel{ρ:Map}(off:Nat): ∀(l l':List Value) (k:Nat) (x x':Array Value),LRel ρ l l'→ARel ρ x x'→
 ARel ρ ((l.zipIdx k).foldl (fun cs (c,j)=>cs.setIfInBounds (off+j) c) x) ((l'.zipIdx k).foldl (fun cs (c,j)=>cs.setIfInBounds (off+j) c) x')
 |[],[],_,_,_,_,hx=>hx
 |v::l,v'::l',k,x,x',h,hx=>by
  simp only[List.zipIdx_cons,List.foldl_cons]
  exact lay_rel off l l' (k+1) _ _ h.2 (hx.setIfInBounds _ h.1)
theorem lay_array{ρ:Map}(off:Nat){y y' x x':Array Value}(h:ARel ρ y y')(hx:ARel ρ x x'):
 ARel ρ (y.zipIdx.foldl (fun cs (c,j)=>cs.setIfInBounds (off+j) c) x) (y'.zipIdx.foldl (fun cs (c,j)=>cs.setIfInBounds (off+j) c) x'):=by
 rw[←Array.foldl_toList,←Array.foldl_toList,Array.toList_zipIdx,Array.toList_zipIdx]
 exact lay_rel off _ _ 0 _ _ h.lrel hx
def QRel(ρ:Map):List (Nat×Value)→List (Nat×Value)→Prop
 |[],[]=>True
 |v::vs,v'::vs'=>v.1=v'.1∧VRel ρ v.2 v'.2∧QRel ρ vs vs'
 |_,_=>False
theorem fill_rel{ρ:Map}(place:Nat→Option (Nat×Nat)): ∀(l l':List (Nat×Value)) (x x' r:Array Value),QRel ρ l l'→ARel ρ x x'→Instr.fill place x l=some r→ ∃r',Instr.fill place x' l'=some r'∧ARel ρ r r'
 |[],[],x,x',r,_,hx,h=>by
  simp only[Instr.fill]at h⊢
  injection h with h
  subst h
  exact⟨x',rfl,hx⟩
 |(i,v)::l,(i',v')::l',x,x',r,hq,hx,h=>by
  obtain⟨e,hv,hq⟩:=hq
  simp only at e hv
  subst e
  simp only[Instr.fill]at h⊢
  split at h
  ·cases h
  ·rename_i off size hp
   have hc:=hv.cells
   rw[←hc.1,←hx.1]
   split at h
   ·cases h
   ·rename_i hn
    rw[if_neg hn]
    exact fill_rel place l l' _ _ r hq (lay_array off hc hx) h
theorem qrel_map{ρ:Map}(ev ev':Operand→Value): ∀(l:List (Nat×Operand)),(∀p∈l,VRel ρ (ev p.2) (ev' p.2))→QRel ρ (l.map fun p=>(p.1,ev p.2)) (l.map fun p=>(p.1,ev' p.2))
 |[],_=>trivial
 |p::l,h=>⟨rfl,h p (by simp),qrel_map ev ev' l fun q hq=>h q (by simp[hq])⟩
def buildC(P:Program)(t:TypeId)(parts:Array (Nat×Value)):Option Value:=
 match P.info? t with
 |some i=>match i.zero with
  |some z=>if ground 9 z then match P.underlying t with
   |some (.struct fields)=>match pureS P (fields.mapM fun f=>do pure (f.offset,←sizeOf f.type))with
    |some places=>(Instr.fill (places[·]?) z.cells parts.toList).map .agg
    |none=>none
   |some (.array _ elem)=>match P.info? elem with
    |some ie=>(Instr.fill (fun i=>some (i*ie.size,ie.size)) z.cells parts.toList).map .agg
    |none=>none
   |_=>none
   else none
  |none=>none
 |none=>none
theorem parts_rel{ρ:Map}{ev ev':Operand→Value}(parts:Array (Nat×Operand))(h: ∀p∈parts,VRel ρ (ev p.2) (ev' p.2)):
 QRel ρ (parts.map fun p=>(p.1,ev p.2)).toList (parts.map fun p=>(p.1,ev' p.2)).toList:=by
 simp only[Array.toList_map]
 exact qrel_map ev ev' _ fun p hp=>h p (by simpa using hp)
theorem build_ok(P:Program)(ev:Operand→Value){o:Oper}{t:TypeId}{parts:Array (Nat×Operand)}(s:St){v:Value}(ho:o.op=.build t parts)(h:buildC P t (parts.map fun p=>(p.1,ev p.2))=some v):OpOk P ev o s s (.val v):=by
 have hops: ∀{ρ ev'},EvR ρ ev o.op ev'→QRel ρ (parts.map fun p=>(p.1,ev p.2)).toList (parts.map fun p=>(p.1,ev' p.2)).toList:=fun he=>
  parts_rel parts fun p hp=>he p.2 (by
   rw[ho]
   simp only[Op.operands]
   simp
   exact⟨p.1,hp⟩)
 unfold buildC at h
 split at h
 ·rename_i i hi
  split at h
  ·rename_i z hz
   split at h
   ·rename_i hg
    split at h
    ·rename_i fields hd
     split at h
     ·rename_i places hpl
      obtain⟨r,hr,h⟩:=Option.map_eq_some_iff.1 h
      subst h
      refine Simu.still fun ρ w ev' he=>?_
      obtain⟨r',hr',hrel⟩:=fill_rel _ _ _ _ _ _ (hops he) (ground_rel 9 z hg ρ).cells hr
      refine⟨.value (.agg r'),?_,.val _ _ (.agg_of hrel)⟩
      simp only[execOp,ho,Instr.build]
      simp only[Sem.run_bind,run_zeroValue_of hi hz,Result.andThen_ok,run_underlying_of hd,pureS_run P w _ _ hpl,hr',Sem.run_pure]
     ·cases h
    ·rename_i n elem hd
     split at h
     ·rename_i ie hie
      obtain⟨r,hr,h⟩:=Option.map_eq_some_iff.1 h
      subst h
      refine Simu.still fun ρ w ev' he=>?_
      obtain⟨r',hr',hrel⟩:=fill_rel _ _ _ _ _ _ (hops he) (ground_rel 9 z hg ρ).cells hr
      refine⟨.value (.agg r'),?_,.val _ _ (.agg_of hrel)⟩
      simp only[execOp,ho,Instr.build]
      simp only[Sem.run_bind,run_zeroValue_of hi hz,Result.andThen_ok,run_underlying_of hd,run_sizeOf_of hie,hr',Sem.run_pure]
     ·cases h
    ·cases h
   ·cases h
  ·cases h
 ·cases h
def buildSliceC(P:Program)(t:TypeId)(len:Nat)(parts:Array (Nat×Value))(s:St):Option (NextC×St):=
 match P.underlying t with
 |some (.slice elem)=>match P.info? elem with
  |some ie=>match ie.zero with
   |some z=>if len*ie.size>2^24 then none else
    if(rowCells (len*ie.size) z).toList.all (ground 9)then
     match Instr.fill (fun i=>some (i*ie.size,ie.size)) (rowCells (len*ie.size) z) parts.toList with
     |some cells=>match newC s cells.toList elem with
      |some (a,s1)=>some (.val (.slice (some a) len len),s1)
      |none=>none
     |none=>none
    else none
   |none=>none
  |none=>none
 |_=>none
theorem hard_slice{ρ:Map}{a r:Addr}{n c:Nat}(hp:ρ a.block=.hard r.block∧a.off=0∧a.spot=none∧r.off=0∧r.spot=none):VRel ρ (.slice (some a) n c) (.slice (some r) n c):=by
 have e:r=⟨r.block,a.off,a.spot⟩:=by
  obtain⟨b,o,sp⟩:=r
  have q:=hp.2
  simp only at q
  obtain⟨q1,q2,q3,q4⟩:=q
  subst q3 q4
  rw[q1,q2]
 rw[e]
 exact .slHard a r.block _ _ hp.1
theorem buildSlice_ok(P:Program)(ev:Operand→Value){o:Oper}{t:TypeId}{len:Nat}{parts:Array (Nat×Operand)}{s s1:St}{n:NextC}(ho:o.op=.buildSlice t len parts)(h:buildSliceC P t len (parts.map fun p=>(p.1,ev p.2)) s=some (n,s1)):OpOk P ev o s s1 n:=by
 have hops: ∀{ρ ev'},EvR ρ ev o.op ev'→QRel ρ (parts.map fun p=>(p.1,ev p.2)).toList (parts.map fun p=>(p.1,ev' p.2)).toList:=fun he=>
  parts_rel parts fun p hp=>he p.2 (by
   rw[ho]
   simp only[Op.operands]
   simp
   exact⟨p.1,hp⟩)
 unfold buildSliceC at h
 split at h
 ·rename_i elem hd
  split at h
  ·rename_i ie hie
   split at h
   ·rename_i z hz
    split at h
    ·cases h
    ·rename_i hle
     split at h
     ·rename_i hg
      split at h
      ·rename_i cells hfill
       split at h
       ·rename_i a s2 hn
        injection h with h;injection h with h1 h2
        subst h1 h2
        let G:(Operand→Value)→Array Value:=fun ev'=>(Instr.fill (fun i=>some (i*ie.size,ie.size)) (rowCells (len*ie.size) z) (parts.map fun p=>(p.1,ev' p.2)).toList).getD #[]
        have hG: ∀{ρ ev'},EvR ρ ev o.op ev'→Instr.fill (fun i=>some (i*ie.size,ie.size)) (rowCells (len*ie.size) z) (parts.map fun p=>(p.1,ev' p.2)).toList=some (G ev')∧ARel ρ cells (G ev'):=fun{ρ ev'} he=>by
         obtain⟨r',hr',hrel⟩:=fill_rel _ _ _ _ _ _ (hops he) (ARel.ground hg) hfill
         have:G ev'=r':=by simp only[G];rw[hr'];rfl
         rw[this]
         exact⟨hr',hrel⟩
        refine(newC_ok P hn).use G (fun _ a'=>.value (.slice (some a') len len)) (fun ρ ev' he=>(hG he).2) (fun ρ w ev' he=>?_) (fun ρ ρ1 ev' r _ _ hp=>.val _ _ (hard_slice hp))
        have hf:=(hG he).1
        simp only[execOp,ho,Instr.buildSlice]
        rw[Sem.run_bind,Sem.run_bind,run_underlying_of hd,Result.andThen_ok]
        simp only[Sem.run_bind,run_sizeOf_of hie,Result.andThen_ok,if_neg hle]
        unfold rowCells at hf
        by_cases h0:len*ie.size=0
        ·simp only[h0,if_true,Sem.run_bind,Sem.run_pure,Result.andThen_ok]at hf⊢
         rw[hf]
         simp only[Sem.run_bind,Sem.run_pure,andThen_assoc,Result.andThen_ok]
        ·simp only[h0,if_false,Sem.run_bind,run_zeroValue_of hie hz,Sem.run_pure,Result.andThen_ok]at hf⊢
         rw[hf]
         simp only[Sem.run_bind,Sem.run_pure,andThen_assoc,Result.andThen_ok]
       ·cases h
      ·cases h
     ·cases h
   ·cases h
  ·cases h
 ·cases h
end Go.Canon
namespace Go.Canon
variable [Ghosts]
theorem ldCs_shape{s s1:St}{a:Addr}{k:Nat}{l:List Value}(h:ldCs s a k=some (l,s1)):(s1=s∨s1=s.rd a.block)∧l.length=k:=by
 unfold ldCs at h
 split at h
 ·rename_i h0
  injection h with h;injection h with h1 h2;subst h1 h2 h0;exact⟨.inl rfl,rfl⟩
 ·split at h
  ·cases h
  ·split at h
   ·split at h
    ·split at h
     ·injection h with h;injection h with h1 h2;subst h1 h2;exact⟨.inr rfl,by simp;omega⟩
     ·cases h
    ·cases h
   ·cases h
theorem ldCs_read(P:Program){s s1:St}{a:Addr}{k:Nat}{l:List Value}(h:ldCs s a k=some (l,s1)){F:Fp}(hF:Fp.Sub s1.fp F){ρ:Map}{w:World}(hi:Inv F ρ s w){a':Addr}(ha:AdR ρ a a'):
 ∃r,(∀wd:World,wd.heap=w.heap→(loadCells a' k).run P wd=.ok r wd)∧ARel ρ ⟨l⟩ r:=by
 unfold ldCs at h
 split at h
 ·rename_i h0
  injection h with h;injection h with h1 h2
  subst h1 h2 h0
  exact⟨#[],fun _ _=>rfl,rfl,fun i h1 _=>by simp at h1⟩
 ·split at h
  ·cases h
  ·rename_i hsp
   split at h
   ·rename_i hlt
    split at h
    ·rename_i c hg
     split at h
     ·rename_i hle
      injection h with h;injection h with h1 h2
      subst h1 h2
      have hA:=hi.at_ a.block hlt (hF.1 _ (by simp[St.fp,Fp.testBit,St.rd,Nat.testBit_or]))
      obtain⟨b',c',e,f,ht,hh,hp,hd⟩:=hA.row hg
      rcases ha with⟨h1,h2,h3⟩|h1
      ·rw[ht]at h1
       injection h1 with h1
       have hlen:=hp.len
       have hv:((c'.toList.drop a.off).take k).length=k:=by simp;omega
       refine⟨((c'.toList.drop a.off).take k).toArray,?_,?_,?_⟩
       ·intro wd hwd
        have hh:wd.heap[b']?=some (.cells c' e f):=by rw[hwd];exact hh
        have:=run_loadCellsFrom P wd a' ((c'.toList.drop a.off).take k) 0 #[] (fun j v hj=>by
         obtain⟨bb,oo,ss⟩:=a'
         simp only at h1 h2 h3
         subst h1 h2 h3
         have ea:(⟨b',a.off,a.spot⟩:Addr).add (0+j)=⟨b',a.off+j,none⟩:=by
          unfold Addr.add
          rw[hsp]
          split
          ·rename_i e0
           have:j=0:=by omega
           subst this;rfl
          ·rw[Nat.zero_add]
         rw[ea,cell_at hh]
         rw[List.getElem?_take]at hj
         split at hj
         ·rw[List.getElem?_drop]at hj
          simpa using hj
         ·cases hj)
        rw[hv]at this
        rw[Array.empty_append]at this
        exact this
       ·simp;omega
       ·intro i hi1 hi2
        simp at hi1
        obtain⟨v',e1,e2⟩:=hp (a.off+i) c[a.off+i] (List.getElem?_eq_getElem (by omega))
        obtain⟨q,e1⟩:=Array.getElem?_eq_some_iff.1 e1
        subst e1
        simpa using e2
      ·exact absurd h1 hd
     ·cases h
    ·cases h
   ·cases h
def lenOfC:Value→Option Nat
 |.slice _ n _=>some n
 |.string s=>some s.size
 |_=>none
def firstC(size n:Nat)(v:Value)(s:St):Option (List Value×St):=
 match v with
 |.slice (some a) _ _=>ldCs s a (n*size)
 |.slice none _ _=>if n*size=0 then some ([],s)else none
 |.string b=>if size=1∧n=b.size then some ((b.extract 0 n).data.toList.map (fun x=>.int .u8 x.toNat),s)else none
 |_=>none
theorem firstC_shape{size n:Nat}{v:Value}{s s1:St}{l:List Value}(h:firstC size n v s=some (l,s1)):(s1=s∨ ∃b,s1=s.rd b)∧l.length=n*size:=by
 unfold firstC at h
 split at h
 ·obtain⟨h1,h2⟩:=ldCs_shape h
  exact⟨h1.imp id (fun e=>⟨_,e⟩),h2⟩
 ·split at h
  ·rename_i h0
   injection h with h;injection h with h1 h2;subst h1 h2;exact⟨.inl rfl,by simpa using h0.symm⟩
  ·cases h
 ·split at h
  ·rename_i h0
   injection h with h;injection h with h1 h2;subst h1 h2
   refine⟨.inl rfl,?_⟩
   obtain⟨h1,h2⟩:=h0
   subst h1 h2
   simp
  ·cases h
 ·cases h
theorem firstC_read(P:Program){size n:Nat}{v:Value}{s s1:St}{l:List Value}(h:firstC size n v s=some (l,s1)){F:Fp}(hF:Fp.Sub s1.fp F){ρ:Map}{w:World}(hi:Inv F ρ s w){v':Value}(hv:VRel ρ v v'):
 ∃r,(∀wd:World,wd.heap=w.heap→(Builtin.firstCells size n v').run P wd=.ok r wd)∧ARel ρ ⟨l⟩ r:=by
 unfold firstC at h
 split at h
 ·obtain⟨a',c',e,hr⟩:=hv.slice_inv
  subst e
  exact ldCs_read P h hF hi hr
 ·split at h
  ·injection h with h;injection h with h1 h2;subst h1 h2
   cases hv
   exact⟨#[],fun _ _=>rfl,rfl,fun i h1 _=>by simp at h1⟩
  ·cases h
 ·split at h
  ·injection h with h;injection h with h1 h2;subst h1 h2
   have e:=hv.string_inv
   subst e
   refine⟨_,fun _ _=>rfl,?_⟩
   refine⟨by simp,fun i h1 h2=>?_⟩
   simp
   exact .int _ _
  ·cases h
 ·cases h
theorem Mono.rd{s s1:St}(h:s1=s∨ ∃b,s1=s.rd b):Mono s s1:=by
 rcases h with e|⟨b,e⟩<;>subst e
 ·exact .refl _
 ·exact s.rd_mono b
theorem Inv.rd{F:Fp}{ρ:Map}{s s1:St}{w:World}(hi:Inv F ρ s w)(h:s1=s∨ ∃b,s1=s.rd b):Inv F ρ s1 w:=by
 rcases h with e|⟨b,e⟩<;>subst e
 ·exact hi
 ·exact⟨hi.at_,hi.inj,hi.lt,hi.ok⟩
theorem Ext.rd{W:Nat}{ρ:Map}{s s1:St}{w:World}(h:s1=s∨ ∃b,s1=s.rd b):Ext W ρ ρ s s1 w w:=by
 rcases h with e|⟨b,e⟩<;>subst e
 ·exact .refl _ _ _ _
 ·exact⟨.refl _,Nat.le_refl _,fun _ _ _=>rfl,fun _ _ _=>rfl,fun _ _=>rfl,fun _ _=>.inl rfl,fun _ _ _=>rfl,Nat.le_refl _,fun b c h1 h2=>absurd h1 (by simp only[St.rd]at h2;omega),rfl,rfl,rfl,fun _=>.refl _⟩
theorem Inv.drew{F:Fp}{ρ:Map}{s:St}{w w1:World}(hi:Inv F ρ s w)(h:w1.heap=w.heap):Inv F ρ s w1:=
 ⟨fun b h1 h2=>(hi.at_ b h1 h2).keep (.refl _) rfl (fun b' _=>by rw[h]) (fun _=>.of_same fun c _=>by rw[h]),hi.inj,fun b x hx=>by rw[h];exact hi.lt b x hx,hi.ok⟩
theorem firstC_ok(P:Program){size n:Nat}{v:Value}{s s1:St}{l:List Value}(h:firstC size n v s=some (l,s1)):
 Simu P s s1 (fun ρ v'=>VRel ρ v v') (fun v'=>Builtin.firstCells size n v') (fun ρ r=>ARel ρ ⟨l⟩ r):=
 ⟨Mono.rd (firstC_shape h).1,fun F hF ρ w v' _ hi hv=>by
  obtain⟨r,h1,h2⟩:=firstC_read P h hF hi hv
  exact⟨ρ,w,hi.rd (firstC_shape h).1,.rd (firstC_shape h).1,r,h1 w rfl,h2⟩⟩
def copyC(P:Program)(ev:Operand→Value)(c:Call)(s:St):Option (NextC×St):=
 match c.callee with
 |.builtin .copy=>match c.argTypes[0]?,c.args[0]?,c.args[1]? with
  |some t,some x,some y=>match P.underlying t,ev x,lenOfC (ev y)with
   |some (.slice elem),.slice base dLen _,some sl=>match P.info? elem with
    |some ie=>match firstC ie.size (Nat.min sl dLen) (ev y) s with
     |some (l,s1)=>match base with
      |none=>some (.val (.int .i64 (Nat.min sl dLen)),s1)
      |some a=>match stCs s1 a l with
       |some s2=>some (.val (.int .i64 (Nat.min sl dLen)),s2)
       |none=>none
     |none=>none
    |none=>none
   |_,_,_=>none
  |_,_,_=>none
 |_=>none
theorem lenOfC_inv{ρ:Map}{v v':Value}{n:Nat}(h:lenOfC v=some n)(hr:VRel ρ v v')(P:Program)(w:World):(Builtin.lenOf v').run P w=.ok n w:=by
 cases hr<;>first|(cases h;done)|(simp only[lenOfC]at h;injection h with h;subst h;rfl)
theorem copy_ok(P:Program)(ev:Operand→Value){o:Oper}{c:Call}{s s1:St}{n:NextC}(ho:o.op=.call c)(h:copyC P ev c s=some (n,s1)):OpOk P ev o s s1 n:=by
 unfold copyC at h
 split at h
 ·rename_i hc
  split at h
  ·rename_i t x y ht hx hy
   have hm1:x∈o.op.operands:=by simp[ho,Op.operands,Call.operands,Array.mem_of_getElem? hx]
   have hm2:y∈o.op.operands:=by simp[ho,Op.operands,Call.operands,Array.mem_of_getElem? hy]
   split at h
   ·rename_i elem base dLen cp sl hd hvx hvy
    split at h
    ·rename_i ie hie
     split at h
     ·rename_i l s2 hf
      have h1:Simu P s s2 (fun ρ ev'=>EvR ρ ev o.op ev') (fun ev'=>Builtin.firstCells ie.size (Nat.min sl dLen) (ev' y)) (fun ρ r=>ARel ρ ⟨l⟩ r):=(firstC_ok P hf).map (γ:=Operand→Value) (fun ev'=>ev' y) (fun ρ ev' he=>he y hm2)
      have pre: ∀{ρ ev' w},EvR ρ ev o.op ev'→ ∃b' c',ev' x=.slice b' dLen c'∧b'.isSome=base.isSome∧(∀a,base=some a→ ∃a',b'=some a'∧AdR ρ a a')∧(Builtin.lenOf (ev' y)).run P w=.ok sl w:=by
       intro ρ ev' w he
       have q:=he x hm1
       rw[hvx]at q
       have q2:=lenOfC_inv hvy (he y hm2) P w
       cases base with
       |none=>
        generalize ev' x=z at q
        cases q with
        |slNil=>exact⟨none,cp,rfl,rfl,(fun a e=>by cases e),q2⟩
       |some a=>
        obtain⟨a',c',e,hr⟩:=q.slice_inv
        exact⟨some a',c',e,rfl,fun a0 e0=>by injection e0 with e0;subst e0;exact⟨a',rfl,hr⟩,q2⟩
      split at h
      ·injection h with h;injection h with e1 e2
       subst e1 e2
       refine h1.use id (fun _ _=>.value (.int .i64 (Nat.min sl dLen))) (fun _ _ h=>h) (fun ρ w ev' he=>?_) (fun ρ ρ1 ev' r _ _ _=>.val _ _ (.int _ _))
       obtain⟨b',c',e1,e2,_,e4⟩:=pre (w:=w) he
       have e3:b'=none:=by cases b' with
        |none=>rfl
        |some _=>cases e2
       subst e3
       simp only[execOp,ho,resolve,hc,Array.getElem?_map,Sem.run_bind,Sem.run_pure,Result.andThen_ok,invoke,builtin,Builtin.copy_,ht,hx,hy,Option.map_some,run_underlying_of hd,e1,e4,run_sizeOf_of hie,goInt,andThen_assoc,id]
      ·rename_i a
       split at h
       ·rename_i s3 hst
        injection h with h;injection h with e1 e2
        subst e1 e2
        have h2:=(stCs_ok P hst).map (γ:=(Operand→Value)×Array Value) (pre':=fun ρ x=>EvR ρ ev o.op x.1∧ARel ρ ⟨l⟩ x.2) (fun z=>(getA (z.1 x),z.2.toList)) (fun ρ q hq=>⟨by
         obtain⟨b',c',e1,_,e3,_⟩:=pre (w:=default) hq.1
         obtain⟨a',e4,e5⟩:=e3 a rfl
         subst e4
         simp only[e1,getA]
         exact e5,hq.2.lrel⟩)
        refine(Simu.bind (k:=fun(z:Operand→Value) (r:Array Value)=>storeCells (getA (z x)) r.toList) h1 (fun ρ ρ1 x hl he=>he.mono hl) h2).use id (fun _ _=>.value (.int .i64 (Nat.min sl dLen))) (fun _ _ h=>h) (fun ρ w ev' he=>?_) (fun ρ ρ1 ev' r _ _ _=>.val _ _ (.int _ _))
        obtain⟨b',c',e1,_,e3,e4⟩:=pre (w:=w) he
        obtain⟨a',e5,_⟩:=e3 a rfl
        subst e5
        simp only[execOp,ho,resolve,hc,Array.getElem?_map,Sem.run_bind,Sem.run_pure,Result.andThen_ok,invoke,builtin,Builtin.copy_,ht,hx,hy,Option.map_some,run_underlying_of hd,e1,e4,run_sizeOf_of hie,goInt,andThen_assoc,id,getA]
       ·cases h
     ·cases h
    ·cases h
   ·cases h
  ·cases h
 ·cases h
end Go.Canon
namespace Go.Canon
variable [Ghosts]
theorem kill_add{F:Fp}{ρ:Map}{s:St}{w w1:World}{b b' m es:Nat}{o:CObj}{x:Stt}{c:Nat}{o':Obj}
 (hi:Inv F ρ s w) (hf:ρ s.n=.none) (hb:b<s.n) (hn:s.n+1<2^40) (hs:ρ b=.soft b' m es) (hx:x.tgt=some c)
 (hc:c=w.heap.size∨c=b') (hw: ∀d,d<w.heap.size→d≠c→w1.heap[d]?=w.heap[d]?) (hwc:w1.heap[c]?=some o') (hsz:w.heap.size≤w1.heap.size)
 (ho:w1.os=w.os∧w1.output=w.output∧w1.tape=w.tape) (hu:Ghosts.gm=true→U Ghosts.ty w w1)
 (ha: ∀(ρ1:Map),le ρ ρ1→ρ1 s.n=x→At ρ1 w1 s.n (some o)):
 Inv F ((ρ.put b .dead).put s.n x) ((s.wr b .dead).add o) w1∧Ext ((s.wr b .dead).add o).w ρ ((ρ.put b .dead).put s.n x) s ((s.wr b .dead).add o) w w1:=by
 have hcl:c<w1.heap.size:=by
  rcases Nat.lt_or_ge c w1.heap.size with h1|h1
  ·exact h1
  ·rw[Array.getElem?_eq_none h1]at hwc;cases hwc
 have hbn:b≠s.n:=by omega
 have hl:le ρ ((ρ.put b .dead).put s.n x):=by
  intro d
  by_cases h1:d=s.n
  ·subst h1;exact .inl hf
  ·rw[Map.put_ne _ _ h1]
   by_cases h2:d=b
   ·subst h2;rw[Map.put_self];exact .inr (.inr ⟨by rw[hs];rfl,rfl⟩)
   ·rw[Map.put_ne _ _ h2];exact .inr (.inl rfl)
 have hb'l:=hi.lt b b' (by rw[hs];rfl)
 have tg: ∀d y,(((ρ.put b .dead).put s.n x) d).tgt=some y→(d=s.n∧y=c)∨(d≠s.n∧d≠b∧(ρ d).tgt=some y∧y≠c):=by
  intro d y e
  by_cases h1:d=s.n
  ·subst h1;rw[Map.put_self,hx]at e;exact .inl ⟨rfl,by injection e with e;exact e.symm⟩
  ·rw[Map.put_ne _ _ h1]at e
   by_cases h2:d=b
   ·subst h2;rw[Map.put_self]at e;cases e
   ·rw[Map.put_ne _ _ h2]at e
    refine .inr ⟨h1,h2,e,?_⟩
    intro h3
    subst h3
    rcases hc with h4|h4
    ·have:=hi.lt d _ e;omega
    ·subst h4;exact h2 (hi.inj d b _ e (by rw[hs];rfl))
 have get: ∀d,((s.wr b .dead).add o).t.get d=if d=s.n then some o else if d=b then some .dead else s.t.get d:=by
  intro d
  simp only[St.add,St.wr]
  rw[Tree.get_set 40 _ _ _ _ hn,Tree.get_set 40 _ _ _ _ (by omega)]
 refine⟨⟨?_,?_,?_,hi.ok⟩,⟨hl,Nat.le_succ _,?_,?_,?_,?_,?_,hsz,?_,ho.1,ho.2.1,ho.2.2,hu⟩⟩
 ·intro d hd hF
  rw[get]
  by_cases h1:d=s.n
  ·subst h1;rw[if_pos rfl];exact ha _ hl (Map.put_self _ _ _)
  ·rw[if_neg h1]
   by_cases h2:d=b
   ·subst h2;rw[if_pos rfl];exact .dead
   ·rw[if_neg h2]
    simp only[St.add,St.wr]at hd
    refine(hi.at_ d (by omega) hF).keep hl (by rw[Map.put_ne _ _ h1,Map.put_ne _ _ h2]) (fun y hy=>?_) hu
    refine hw y (hi.lt d y hy) ?_
    intro e
    subst e
    rcases hc with h4|h4
    ·have:=hi.lt d _ hy;omega
    ·subst h4;exact h2 (hi.inj d b _ hy (by rw[hs];rfl))
 ·intro d e y h1 h2
  rcases tg d y h1 with⟨h3,h4⟩|⟨h3,h4,h5,h6⟩<;>rcases tg e y h2 with⟨k3,k4⟩|⟨k3,k4,k5,k6⟩
  ·omega
  ·exact absurd h4 k6
  ·exact absurd k4 h6
  ·exact hi.inj d e y h5 k5
 ·intro d y h1
  rcases tg d y h1 with⟨h3,h4⟩|⟨h3,h4,h5,h6⟩
  ·omega
  ·have:=hi.lt d y h5;omega
 ·intro d hd hW
  rw[get,if_neg (by omega),if_neg]
  intro e
  subst e
  simp only[St.add,St.wr,Nat.testBit_or,bit_self,Bool.or_true,Bool.true_or]at hW
  cases hW
 ·intro d hd hW
  rw[Map.put_ne _ _ (by omega),Map.put_ne]
  intro e
  subst e
  simp only[St.add,St.wr,Nat.testBit_or,bit_self,Bool.or_true,Bool.true_or]at hW
  cases hW
 ·intro d hd
  simp only[St.add,St.wr]at hd
  rw[Map.put_ne _ _ (by omega),Map.put_ne _ _ (by omega)]
 ·intro d hd
  rw[Map.put_ne _ _ (by omega)]
  by_cases h2:d=b
  ·subst h2;rw[Map.put_self];exact .inr ⟨by rw[hs];rfl,rfl⟩
  ·exact .inl (Map.put_ne _ _ h2)
 ·intro d hd hno
  refine hw d hd ?_
  intro e
  rcases hc with h4|h4
  ·omega
  ·exact hno b hb (by simp[St.add,St.wr,Nat.testBit_or]) (by rw[hs,e,h4];rfl)
 ·intro d y h1 h2 h3
  rcases tg d y h3 with⟨h4,h5⟩|⟨h4,h5,h6,h7⟩
  ·rcases hc with h8|h8
   ·exact .inl (by omega)
   ·exact .inr ⟨b,hb,by simp[St.add,St.wr,Nat.testBit_or],by rw[hs,h5,h8];rfl⟩
  ·simp only[St.add,St.wr]at h2;omega
theorem add_any{F:Fp}{ρ:Map}{s:St}{w w1:World}{o:CObj}{x:Stt}{o':Obj}
 (hi:Inv F ρ s w) (hf:ρ s.n=.none) (hn:s.n+1<2^40) (hx:x.tgt=some w.heap.size) (hw:w1.heap=w.heap.push o') (ho:w1.os=w.os∧w1.output=w.output∧w1.tape=w.tape)
 (ha: ∀(ρ1:Map),le ρ ρ1→ρ1 s.n=x→At ρ1 w1 s.n (some o)):
 Inv F (ρ.put s.n x) (s.add o) w1∧Ext (s.add o).w ρ (ρ.put s.n x) s (s.add o) w w1:=by
 have hl:=le_put (ρ:=ρ) (b:=s.n) x hf
 have hheap: ∀c,c<w.heap.size→w1.heap[c]?=w.heap[c]?:=fun c hc=>by
  rw[hw,Array.getElem?_push,if_neg (by omega)]
 have hsz:w1.heap.size=w.heap.size+1:=by rw[hw,Array.size_push]
 have tg: ∀c y,(ρ.put s.n x c).tgt=some y→(c=s.n∧y=w.heap.size)∨(c≠s.n∧(ρ c).tgt=some y):=by
  intro c y e
  by_cases h1:c=s.n
  ·subst h1;rw[Map.put_self,hx]at e;exact .inl ⟨rfl,by injection e with e;exact e.symm⟩
  ·rw[Map.put_ne _ _ h1]at e;exact .inr ⟨h1,e⟩
 refine⟨⟨?_,?_,?_,hi.ok⟩,⟨hl,Nat.le_succ _,?_,?_,?_,?_,fun c hc _=>hheap c hc,by omega,?_,ho.1,ho.2.1,ho.2.2,fun _=>.of_same hheap⟩⟩
 ·intro c hc hF'
  simp only[St.add]at hc⊢
  rw[Tree.get_set 40 _ _ _ _ hn]
  by_cases e:c=s.n
  ·subst e
   rw[if_pos rfl]
   exact ha _ hl (Map.put_self _ _ _)
  ·rw[if_neg e]
   exact(hi.at_ c (by omega) hF').keep hl (Map.put_ne _ _ e) (fun c' hc'=>hheap c' (hi.lt c c' hc')) (fun _=>.of_same hheap)
 ·intro b c y h1 h2
  rcases tg b y h1 with⟨h3,h4⟩|⟨h3,h4⟩<;>rcases tg c y h2 with⟨h5,h6⟩|⟨h5,h6⟩
  ·omega
  ·have:=hi.lt c y h6;omega
  ·have:=hi.lt b y h4;omega
  ·exact hi.inj b c y h4 h6
 ·intro b y h1
  rcases tg b y h1 with⟨_,h4⟩|⟨_,h4⟩
  ·omega
  ·have:=hi.lt b y h4;omega
 ·intro c hc _
  simp only[St.add]
  rw[Tree.get_set 40 _ _ _ _ hn,if_neg (by omega)]
 ·intro c hc _;exact Map.put_ne _ _ (by omega)
 ·intro c hc;exact Map.put_ne _ _ (by simp only[St.add]at hc;omega)
 ·intro c hc;exact .inl (Map.put_ne _ _ (by omega))
 ·intro b c h1 h2 h3
  rcases tg b c h3 with⟨_,h4⟩|⟨h4,_⟩
  ·exact .inl (by omega)
  ·simp only[St.add]at h2;omega
theorem growBy_le(newLen:Nat): ∀(r c:Nat),c≤2*newLen+200→Builtin.growBy newLen r c≤2*newLen+200:=by
 intro r
 induction r with
 |zero=>intro c h;exact h
 |succ r ih=>
  intro c h
  simp only[Builtin.growBy]
  split
  ·exact h
  ·exact ih _ (by omega)
theorem nextslicecap_le{newLen old:Nat}(h:old≤newLen):Builtin.nextslicecap newLen old≤2*newLen+200:=by
 unfold Builtin.nextslicecap
 split
 ·omega
 ·split
  ·omega
  ·exact growBy_le _ _ _ (by omega)
def intD:TypeDesc→Bool
 |.int _=>true
 |_=>false
theorem run_append_place{P:Program}{w:World}{t tx elem:TypeId}{dx:TypeDesc}{ie:TypeInfo}{base:Option Addr}{sLen sCap n:Nat}{y:Value}{argTypes:Array TypeId}{args:Array Value}{ty:TypeId}{new:Array Value}
 (h0:argTypes[0]?=some t) (h1:argTypes[1]?=some tx) (a0:args[0]?=some (.slice base sLen sCap)) (a1:args[1]?=some y)
 (hd:P.underlying t=some (.slice elem)) (hx:P.underlying tx=some dx) (hi:intD dx=false) (hie:P.info? elem=some ie)
 (hn:(Builtin.lenOf y).run P w=.ok n w) (hnew:(Builtin.firstCells ie.size n y).run P w=.ok new w) (hle:sLen+n≤sCap):
 (Builtin.append_ argTypes ty args).run P w=(match base with
  |some a=>((storeCells (a.add (sLen*ie.size)) new.toList).run P w).andThen fun _ w'=>.ok (.slice base (sLen+n) sCap) w'
  |none=>.ok (.slice base (sLen+n) sCap) w):=by
 have hz:(match dx with|.int _=>true|_=>false)=false:=by cases dx<;>first|rfl|(simp[intD]at hi)
 unfold Builtin.append_
 simp only[h0,a0,a1,Sem.run_bind,run_underlying_of hd,Result.andThen_ok,run_sizeOf_of hie,h1,run_underlying_of hx,Sem.run_pure]
 cases dx<;>first|(simp[intD]at hi;done)|skip
 all_goals
  simp only[Bool.false_eq_true,if_false,Sem.run_bind,hn,Result.andThen_ok,Bool.not_false,if_true,hle,hnew]
  cases base<;>simp
theorem run_append_grow{P:Program}{w:World}{t tx elem:TypeId}{dx:TypeDesc}{ie:TypeInfo}{base:Option Addr}{sLen sCap n:Nat}{y z:Value}{argTypes:Array TypeId}{args:Array Value}{ty:TypeId}{old new:Array Value}
 (h0:argTypes[0]?=some t) (h1:argTypes[1]?=some tx) (a0:args[0]?=some (.slice base sLen sCap)) (a1:args[1]?=some y)
 (hd:P.underlying t=some (.slice elem)) (hx:P.underlying tx=some dx) (hi:intD dx=false) (hie:P.info? elem=some ie) (hz:ie.zero=some z)
 (hn:(Builtin.lenOf y).run P w=.ok n w) (hnew: ∀wd:World,wd.heap=w.heap→(Builtin.firstCells ie.size n y).run P wd=.ok new wd)
 (hold: ∀wd:World,wd.heap=w.heap→(Builtin.firstCells ie.size sLen (.slice base sLen sCap)).run P wd=.ok old wd)
 (hgt: ¬sLen+n≤sCap) (hb1: ¬((sLen+n:Nat):Int)>IntKind.i64.max) (hb2: ¬Builtin.nextslicecap (sLen+n) sCap*ie.bytes>2^48):
 ∃newCap w1,sLen+n≤newCap∧(Builtin.append_ argTypes ty args).run P w=.ok (.slice (some ⟨w.heap.size,0,none⟩) (sLen+n) newCap) w1∧
  w1.heap=w.heap.push (.cells (old++new++Builtin.zeroCells z.cells (newCap-(sLen+n))) elem (0,0))∧w1.os=w.os∧w1.output=w.output∧w1.tape=w.tape:=by
 refine⟨sLen+n+w.tape w.drawn (.appendCap (sLen+n) sCap elem)%(2^63-(sLen+n)),{({w with drawn:=w.drawn+1}:World)with heap:=w.heap.push (.cells (old++new++Builtin.zeroCells z.cells (sLen+n+w.tape w.drawn (.appendCap (sLen+n) sCap elem)%(2^63-(sLen+n))-(sLen+n))) elem (0,0))},by omega,?_,rfl,rfl,rfl,rfl⟩
 have e1:=hold {w with drawn:=w.drawn+1} rfl
 have e2:=hnew {w with drawn:=w.drawn+1} rfl
 unfold Builtin.append_
 simp only[h0,a0,a1,Sem.run_bind,run_underlying_of hd,Result.andThen_ok,run_sizeOf_of hie,h1,run_underlying_of hx,Sem.run_pure]
 cases dx<;>first|(simp[intD]at hi;done)|skip
 all_goals
  simp only[Bool.false_eq_true,if_false,Sem.run_bind,hn,Result.andThen_ok,Bool.not_false,if_true,hgt,run_typeInfo_of hie,hb1,false_and,hb2,run_choose,Question.forced,Question.cut,run_askRoom,e1,e2,run_zeroValue_of hie hz,newRow,run_newObj,Sem.run_pure,false_or]
def elemOf(s:St)(b:Nat):Option TypeId:=
 match s.t.get b with
 |some (.cells _ e _)=>some e
 |_=>none
theorem ldCs_list{s s1:St}{a:Addr}{k:Nat}{l c:List Value}{e sf:Nat}(h:ldCs s a k=some (l,s1))(hg:s.t.get a.block=some (.cells c e sf)):l=(c.drop a.off).take k:=by
 unfold ldCs at h
 split at h
 ·rename_i h0
  injection h with h;injection h with h1 h2
  subst h0 h1;simp
 ·split at h
  ·cases h
  ·split at h
   ·rw[hg]at h
    simp only[rowC]at h
    split at h
    ·injection h with h;injection h with h1 h2;exact h1.symm
    ·cases h
   ·cases h
def appendC(P:Program)(ev:Operand→Value)(c:Call)(s:St):Option (NextC×St):=
 match c.callee with
 |.builtin .append=>match c.argTypes[0]?,c.argTypes[1]?,c.args[0]?,c.args[1]? with
  |some t,some tx,some x,some y=>match P.underlying t,P.underlying tx,ev x,lenOfC (ev y)with
   |some (.slice elem),some dx,.slice base sLen sCap,some n=>if intD dx then none else
    match P.info? elem with
    |some ie=>match firstC ie.size n (ev y) s with
     |some (new,s1)=>
      if sLen+n≤sCap then match base with
       |none=>some (.val (.slice none (sLen+n) sCap),s1)
       |some a=>match softOf s1 a.block with
        |some _=>match stCs (s1.rd a.block) (a.add (sLen*ie.size)) new with
         |some s2=>some (.val (.slice (some a) (sLen+n) sCap),s2)
         |none=>none
        |none=>none
      else match ie.zero with
       |some z=>if z.cells.size=ie.size∧(2*(sLen+n)+200)*ie.bytes≤2^48∧sLen+n≤9223372036854775807∧s1.n+1<2^40 then
        match firstC ie.size sLen (.slice base sLen sCap) s1 with
        |some (old,s2)=>match base with
         |none=>some (.val (.slice (some ⟨s2.n,0,none⟩) (sLen+n) (sLen+n)),s2.add (.cells (old++new) elem (ie.size+1)))
         |some a=>match softOf s2 a.block with
          |some 0=>some (.val (.slice (some ⟨s2.n,0,none⟩) (sLen+n) (sLen+n)),(s2.rd a.block).add (.cells (old++new) elem (ie.size+1)))
          |some (sf+1)=>if sf=ie.size∧a.off=0∧a.spot=none∧elemOf s2 a.block=some elem∧new.isEmpty=false∧new.all Value.oneCell'=true∧Ghosts.gm=false then
           some (.val (.slice (some ⟨s2.n,0,none⟩) (sLen+n) (sLen+n)),(s2.wr a.block .dead).add (.cells (old++new) elem (ie.size+1)))
           else none
          |none=>none
        |none=>none
        else none
       |none=>none
     |none=>none
    |none=>none
   |_,_,_,_=>none
  |_,_,_,_=>none
 |_=>none
theorem VRel.relen{ρ ρ1:Map}{a a':Addr}{n k c c':Nat}(h:VRel ρ (.slice (some a) n c) (.slice (some a') n c'))(hl:le ρ ρ1):VRel ρ1 (.slice (some a) k c) (.slice (some a') k c'):=by
 have h2:=h.mono hl
 cases h2 with
 |slHard _ b' _ _ e=>exact .slHard a b' _ _ e
 |slSoft _ b' m es _ _ _ e e1 e2=>exact .slSoft a b' m es _ _ _ e e1 e2
 |slDead _ _ _ _ _ e=>exact .slDead a _ _ _ _ e
theorem VRel.slice_cap{ρ:Map}{a:Addr}{n c:Nat}{v:Value}(h:VRel ρ (.slice (some a) n c) v): ∃a' c',v=.slice (some a') n c'∧AdR ρ a a'∧(c≤c'∨ρ a.block=.dead):=by
 cases h with
 |slHard _ b' _ _ e=>exact⟨_,_,rfl,.inl ⟨by rw[e];rfl,rfl,rfl⟩,.inl (Nat.le_refl _)⟩
 |slSoft _ b' m es _ _ c' e e1 _=>exact⟨_,_,rfl,.inl ⟨by rw[e];rfl,rfl,rfl⟩,.inl e1⟩
 |slDead _ a' _ _ c' e=>exact⟨_,_,rfl,.inr e,.inr e⟩
theorem softOf_dead{s:St}{b sf:Nat}(h:softOf s b=some sf){F:Fp}{ρ:Map}{w:World}(hi:Inv F ρ s w)(hF:F.testBit b=true):ρ b≠.dead:=by
 rcases softOf_at h (fun hb=>hi.at_ b hb hF)with⟨_,b',e⟩|⟨b',m,es,e,_⟩<;>(rw[e];intro q;cases q)
theorem append_place_ok(P:Program){t tx elem:TypeId}{dx:TypeDesc}{ie:TypeInfo}{base:Option Addr}{sLen sCap n:Nat}{y:Value}{s s1 s2:St}{new:List Value}{v:Value}
 (hd:P.underlying t=some (.slice elem)) (hx:P.underlying tx=some dx) (hi:intD dx=false) (hie:P.info? elem=some ie) (hln:lenOfC y=some n)
 (hf:firstC ie.size n y s=some (new,s1)) (hle:sLen+n≤sCap)
 (h:(match base with
  |none=>some (NextC.val (.slice none (sLen+n) sCap),s1)
  |some a=>match softOf s1 a.block with
   |some _=>match stCs (s1.rd a.block) (a.add (sLen*ie.size)) new with
    |some s2=>some (.val (.slice (some a) (sLen+n) sCap),s2)
    |none=>none
   |none=>none)=some (.val v,s2)):
 Simu P s s2 (fun ρ (q:Array TypeId×Array Value)=>q.1[0]?=some t∧q.1[1]?=some tx∧(∃x',q.2[0]?=some x'∧VRel ρ (.slice base sLen sCap) x')∧ ∃y',q.2[1]?=some y'∧VRel ρ y y')
  (fun q=>Builtin.append_ q.1 0 q.2) (fun ρ r=>VRel ρ v r):=by
 cases base with
 |none=>
  injection h with h;injection h with e1 e2
  injection e1 with e1
  subst e1 e2
  refine⟨Mono.rd (firstC_shape hf).1,fun F hF ρ w q _ hinv hq=>?_⟩
  obtain⟨q0,q1,⟨x',q2,q3⟩,y',q4,q5⟩:=hq
  obtain⟨r,r1,r2⟩:=firstC_read P hf hF hinv q5
  cases q3 with
  |slNil _ _=>
   exact⟨ρ,w,hinv.rd (firstC_shape hf).1,.rd (firstC_shape hf).1,_,run_append_place q0 q1 q2 q4 hd hx hi hie (lenOfC_inv hln q5 P w) (r1 w rfl) hle,.slNil _ _⟩
 |some a=>
  dsimp only at h
  split at h
  ·rename_i sf hsf
   split at h
   ·rename_i s3 hst
    injection h with h;injection h with e1 e2
    injection e1 with e1
    subst e1 e2
    have hst2:=stCs_ok P hst
    have m1:=Mono.rd (firstC_shape hf).1
    refine⟨(m1.trans (s1.rd_mono _)).trans hst2.1,fun F hF ρ w q hfr hinv hq=>?_⟩
    obtain⟨q0,q1,⟨x',q2,q3⟩,y',q4,q5⟩:=hq
    have hF1:Fp.Sub (s1.rd a.block).fp F:=hst2.1.fp.trans hF
    obtain⟨r,r1,r2⟩:=firstC_read P hf ((s1.rd_mono _).fp.trans hF1) hinv q5
    have i1:=hinv.rd (firstC_shape hf).1
    have hbit:F.testBit a.block=true:=hF1.1 _ (by simp[St.fp,Fp.testBit,St.rd,Nat.testBit_or])
    have hnd:=softOf_dead hsf i1 hbit
    have i2:Inv F ρ (s1.rd a.block) w:=i1.rd (.inr ⟨_,rfl⟩)
    obtain⟨a',c',e,hr,hc⟩:=q3.slice_cap
    subst e
    have hn1:s.n=(s1.rd a.block).n:=by
     rcases(firstC_shape hf).1 with e|⟨_,e⟩<;>(rw[e];rfl)
    obtain⟨ρ1,w1,j1,j2,u,j3,_⟩:=hst2.2 F hF ρ w (a'.add (sLen*ie.size),r.toList) (fun b h1 h2=>hfr b (by omega) h2) i2 ⟨hr.add _,r2.lrel⟩
    have ex:Ext s3.w ρ ρ s (s1.rd a.block) w w:=(Ext.rd (firstC_shape hf).1).trans (Ext.rd (.inr ⟨_,rfl⟩))
    refine⟨ρ1,w1,j1,ex.trans j2,.slice (some a') (sLen+n) c',?_,q3.relen j2.le⟩
    rw[run_append_place q0 q1 q2 q4 hd hx hi hie (lenOfC_inv hln q5 P w) (r1 w rfl) (by rcases hc with hc|hc;omega;exact absurd hc hnd)]
    simp only at j3⊢
    rw[j3]
    rfl
   ·cases h
  ·cases h
theorem zeroCells_size(z:Array Value)(n:Nat):(Builtin.zeroCells z n).size=n*z.size:=by simp[Builtin.zeroCells]
theorem append_grow_ok(P:Program){t tx elem:TypeId}{dx:TypeDesc}{ie:TypeInfo}{base:Option Addr}{sLen sCap n:Nat}{y z:Value}{s s1 s2 s3:St}{new old:List Value}{v:Value}
 (hd:P.underlying t=some (.slice elem)) (hx:P.underlying tx=some dx) (hi:intD dx=false) (hie:P.info? elem=some ie) (hln:lenOfC y=some n) (hz:ie.zero=some z)
 (hf:firstC ie.size n y s=some (new,s1)) (hle: ¬sLen+n≤sCap) (hzs:z.cells.size=ie.size) (hb2:(2*(sLen+n)+200)*ie.bytes≤2^48) (hb1:sLen+n≤9223372036854775807) (hn40:s1.n+1<2^40)
 (hg:firstC ie.size sLen (.slice base sLen sCap) s1=some (old,s2))
 (h:(match base with
  |none=>some (NextC.val (.slice (some ⟨s2.n,0,none⟩) (sLen+n) (sLen+n)),s2.add (.cells (old++new) elem (ie.size+1)))
  |some a=>match softOf s2 a.block with
   |some 0=>some (.val (.slice (some ⟨s2.n,0,none⟩) (sLen+n) (sLen+n)),(s2.rd a.block).add (.cells (old++new) elem (ie.size+1)))
   |some (sf+1)=>if sf=ie.size∧a.off=0∧a.spot=none∧elemOf s2 a.block=some elem∧new.isEmpty=false∧new.all Value.oneCell'=true∧Ghosts.gm=false then
    some (.val (.slice (some ⟨s2.n,0,none⟩) (sLen+n) (sLen+n)),(s2.wr a.block .dead).add (.cells (old++new) elem (ie.size+1)))
    else none
   |none=>none)=some (.val v,s3)):
 Simu P s s3 (fun ρ (q:Array TypeId×Array Value)=>q.1[0]?=some t∧q.1[1]?=some tx∧(∃x',q.2[0]?=some x'∧VRel ρ (.slice base sLen sCap) x')∧ ∃y',q.2[1]?=some y'∧VRel ρ y y')
  (fun q=>Builtin.append_ q.1 0 q.2) (fun ρ r=>VRel ρ v r):=by
 have sh1:=firstC_shape hf
 have sh2:=firstC_shape hg
 have n1:s1.n=s.n:=by rcases sh1.1 with e|⟨_,e⟩<;>simp[e,St.rd]
 have n2:s2.n=s1.n:=by rcases sh2.1 with e|⟨_,e⟩<;>simp[e,St.rd]
 have m1:=Mono.rd sh1.1
 have m2:=Mono.rd sh2.1
 have m40:s2.n+1<2^40:=by omega
 have fresh: ∀(ρ:Map) (w w1:World) (r o':Array Value) (newCap:Nat),sLen+n≤newCap→ARel ρ ⟨new⟩ r→ARel ρ ⟨old⟩ o'→
  w1.heap=w.heap.push (.cells (o'++r++Builtin.zeroCells z.cells (newCap-(sLen+n))) elem (0,0))→
  w1.heap[w.heap.size]?=some (.cells (o'++r++Builtin.zeroCells z.cells (newCap-(sLen+n))) elem (0,0))∧
  (o'++r++Builtin.zeroCells z.cells (newCap-(sLen+n))).size=newCap*ie.size∧
  (∀ρ1,le ρ ρ1→PRel ρ1 (old++new) (o'++r++Builtin.zeroCells z.cells (newCap-(sLen+n)))):=by
  intro ρ w w1 r o' newCap hc hr ho hw
  refine⟨by rw[hw,Array.getElem?_push,if_pos rfl],?_,?_⟩
  ·have e1:=hr.1
   have e2:=ho.1
   simp only[List.size_toArray]at e1 e2
   rw[Array.size_append,Array.size_append,zeroCells_size,hzs,←e1,←e2,sh1.2,sh2.2]
   rw[←Nat.add_mul,←Nat.add_mul]
   congr 1
   omega
  ·intro ρ1 hl
   have hA:=((ho.append hr).mono hl).prel
   intro i x hxi
   have hxi2:(⟨old⟩++⟨new⟩:Array Value).toList[i]?=some x:=by simpa using hxi
   obtain⟨x',e1,e2⟩:=hA i x hxi2
   refine⟨x',?_,e2⟩
   obtain⟨q,e1⟩:=Array.getElem?_eq_some_iff.1 e1
   rw[Array.getElem?_append_left q]
   exact Array.getElem?_eq_some_iff.2 ⟨q,e1⟩
 have bb1: ¬((sLen+n:Nat):Int)>IntKind.i64.max:=by
  have:IntKind.i64.max=9223372036854775807:=by decide
  rw[this];omega
 have bb2: ∀c',¬sLen+n≤c'→ ¬Builtin.nextslicecap (sLen+n) c'*ie.bytes>2^48:=by
  intro c' hc hgt
  have h1:=nextslicecap_le (newLen:=sLen+n) (old:=c') (by omega)
  have h2:=Nat.mul_le_mul_right ie.bytes h1
  omega
 cases base with
 |none=>
  injection h with h;injection h with e1 e2
  injection e1 with e1
  subst e1 e2
  refine⟨(m1.trans m2).trans (s2.add_mono _ m40),fun F hF ρ w q hfr hinv hq=>?_⟩
  obtain⟨q0,q1,⟨x',q2,q3⟩,y',q4,q5⟩:=hq
  have hF2:Fp.Sub s2.fp F:=(s2.add_mono _ m40).fp.trans hF
  have hF1:Fp.Sub s1.fp F:=m2.fp.trans hF2
  have i1:=hinv.rd sh1.1
  have i2:=i1.rd sh2.1
  obtain⟨r,r1,r2⟩:=firstC_read P hf hF1 hinv q5
  obtain⟨o',o1,o2⟩:=firstC_read P hg hF2 i1 q3
  cases q3 with
  |slNil _ _=>
   obtain⟨newCap,w1,hc,hrun,hw,h5,h6,h7⟩:=run_append_grow (old:=o') (new:=r) (ty:=0) q0 q1 q2 q4 hd hx hi hie hz (lenOfC_inv hln q5 P w) r1 o1 hle bb1 (bb2 _ hle)
   obtain⟨f1,f2,f3⟩:=fresh ρ w w1 r o' newCap hc r2 o2 hw
   obtain⟨j1,j2⟩:=add_any (o:=.cells (old++new) elem (ie.size+1)) (x:=.soft w.heap.size (newCap*ie.size) ie.size) i2 (hfr s2.n (by omega) (by simp only[St.add];omega)) (by omega) rfl hw ⟨h5,h6,h7⟩
    (fun ρ1 hl he=>.soft _ elem ie.size w.heap.size _ (by rw[f2];exact he) f1 (f3 ρ1 hl))
   refine⟨_,w1,j1,((Ext.rd sh1.1).trans (Ext.rd sh2.1)).trans j2,_,hrun,?_⟩
   exact .slSoft ⟨s2.n,0,none⟩ w.heap.size _ ie.size _ _ _ (Map.put_self _ _ _) hc (by simp)
 |some a=>
  dsimp only at h
  split at h
  ·rename_i hsf
   injection h with h;injection h with e1 e2
   injection e1 with e1
   subst e1 e2
   refine⟨((m1.trans m2).trans (s2.rd_mono _)).trans (St.add_mono (s2.rd a.block) _ m40),fun F hF ρ w q hfr hinv hq=>?_⟩
   obtain⟨q0,q1,⟨x',q2,q3⟩,y',q4,q5⟩:=hq
   have hF3:Fp.Sub (s2.rd a.block).fp F:=(St.add_mono (s2.rd a.block) _ m40).fp.trans hF
   have hF2:Fp.Sub s2.fp F:=(s2.rd_mono _).fp.trans hF3
   have hF1:Fp.Sub s1.fp F:=m2.fp.trans hF2
   have i1:=hinv.rd sh1.1
   have i2:=i1.rd sh2.1
   have i3:Inv F ρ (s2.rd a.block) w:=i2.rd (.inr ⟨_,rfl⟩)
   obtain⟨r,r1,r2⟩:=firstC_read P hf hF1 hinv q5
   obtain⟨o',o1,o2⟩:=firstC_read P hg hF2 i1 q3
   have hbit:F.testBit a.block=true:=hF3.1 _ (by simp[St.fp,Fp.testBit,St.rd,Nat.testBit_or])
   rcases softOf_at hsf (fun hb=>i2.at_ a.block hb hbit)with⟨_,b',hh⟩|⟨_,_,_,_,e⟩
   ·cases q3 with
    |slHard _ b2 _ _ e=>
     obtain⟨newCap,w1,hc,hrun,hw,h5,h6,h7⟩:=run_append_grow (old:=o') (new:=r) (ty:=0) q0 q1 q2 q4 hd hx hi hie hz (lenOfC_inv hln q5 P w) r1 o1 hle bb1 (bb2 _ hle)
     obtain⟨f1,f2,f3⟩:=fresh ρ w w1 r o' newCap hc r2 o2 hw
     obtain⟨j1,j2⟩:=add_any (o:=.cells (old++new) elem (ie.size+1)) (x:=.soft w.heap.size (newCap*ie.size) ie.size) i3 (hfr s2.n (by omega) (by simp only[St.add,St.rd];omega)) (by simp only[St.rd];omega) rfl hw ⟨h5,h6,h7⟩
      (fun ρ1 hl he=>.soft _ elem ie.size w.heap.size _ (by rw[f2];exact he) f1 (f3 ρ1 hl))
     refine⟨_,w1,j1,(((Ext.rd sh1.1).trans (Ext.rd sh2.1)).trans (Ext.rd (.inr ⟨_,rfl⟩))).trans j2,_,hrun,?_⟩
     exact .slSoft ⟨s2.n,0,none⟩ w.heap.size _ ie.size _ _ _ (Map.put_self _ _ _) hc (by simp)
    |slSoft _ _ _ _ _ _ _ e _ _=>rw[hh]at e;cases e
    |slDead _ _ _ _ _ e=>rw[hh]at e;cases e
   ·cases e
  ·rename_i sf hsf
   split at h
   ·rename_i hcond
    obtain⟨c1,c2,c3,c4,c5,c6,c7⟩:=hcond
    injection h with h;injection h with e1 e2
    injection e1 with e1
    subst e1 e2
    have hbn:a.block<s2.n:=by
     unfold softOf at hsf
     split at hsf
     ·assumption
     ·cases hsf
    refine⟨((m1.trans m2).trans (s2.wr_mono _ _ (by omega))).trans (St.add_mono (s2.wr a.block .dead) _ m40),fun F hF ρ w q hfr hinv hq=>?_⟩
    obtain⟨q0,q1,⟨x',q2,q3⟩,y',q4,q5⟩:=hq
    have hF3:Fp.Sub (s2.wr a.block .dead).fp F:=(St.add_mono (s2.wr a.block .dead) _ m40).fp.trans hF
    have hF2:Fp.Sub s2.fp F:=(s2.wr_mono _ _ (by omega)).fp.trans hF3
    have hF1:Fp.Sub s1.fp F:=m2.fp.trans hF2
    have i1:=hinv.rd sh1.1
    have i2:=i1.rd sh2.1
    obtain⟨r,r1,r2⟩:=firstC_read P hf hF1 hinv q5
    obtain⟨o',o1,o2⟩:=firstC_read P hg hF2 i1 q3
    have hbit:F.testBit a.block=true:=hF3.1 _ (by simp[St.fp,Fp.testBit,St.wr,Nat.testBit_or])
    have hA:=i2.at_ a.block hbn hbit
    have hsn:ρ s2.n=.none:=hfr s2.n (by omega) (by simp only[St.add,St.wr];omega)
    rcases softOf_at hsf (fun _=>hA)with⟨e,_⟩|⟨b',m,es,hh,e⟩
    ·cases e
    ·have ees:es=ie.size:=by omega
     cases q3 with
     |slHard _ b2 _ _ e=>rw[hh]at e;cases e
     |slDead _ _ _ _ _ e=>rw[hh]at e;cases e
     |slSoft _ b2 m2 es2 _ _ c' e e3 e4=>
      rw[hh]at e
      injection e with g1 g2 g3
      subst g1 g2 g3
      have w3:(s2.wr a.block .dead).n=s2.n:=rfl
      by_cases hroom:sLen+n≤c'
      ·
       have hget:s2.t.get a.block=s1.t.get a.block:=by rcases sh2.1 with e|⟨_,e⟩<;>simp[e,St.rd]
       unfold elemOf at c4
       split at c4
       ·rename_i c e0 sf0 hgc
        injection c4 with c4
        rw[c4]at hgc
        rw[hgc]at hA
        have hlist:=ldCs_list (s:=s1) hg (hget.symm.trans hgc)
        rw[c2,List.drop_zero]at hlist
        cases hA with
        |hard _ _ _ _ e _ _ _=>rw[hh]at e;cases e
        |soft _ _ es9 b9 cA k1 k2 k3=>
         rw[hh]at k1
         injection k1 with k4 k5 k6
         subst k4 k5
         have hrl:r.size=n*ie.size:=by have:=r2.1;simp only[List.size_toArray]at this;rw[←this,sh1.2]
         have hol:old.length=sLen*ie.size:=sh2.2
         have hbound:sLen*ie.size+n*ie.size≤cA.size:=by
          rw[ees]at e4
          have h9:(sLen+n)*ie.size≤c'*ie.size:=Nat.mul_le_mul_right _ hroom
          rw[Nat.add_mul]at h9
          omega
         have hadd:(⟨b',a.off,a.spot⟩:Addr).add (sLen*ie.size)=⟨b',sLen*ie.size,none⟩:=by
          rw[c2,c3]
          unfold Addr.add
          split
          ·rename_i h0;rw[h0]
          ·simp
         have hne:r.toList≠ []:=by
          intro h0
          have h1:r.size=0:=by rw[←Array.length_toList,h0];rfl
          have h2:=r2.1
          simp only[List.size_toArray]at h2
          have:new=[]:=List.eq_nil_of_length_eq_zero (by omega)
          subst this
          simp at c5
         have hb'l:=hinv.lt a.block b' (by rw[hh];rfl)
         have hst:=run_storeCells P r.toList w b' (sLen*ie.size) 0 cA elem k2 (r2.lrel.oneCell c6) hne (by simp only[Array.length_toList];omega)
         rw[Nat.add_zero]at hst
         have hrun:=run_append_place (ty:=0) q0 q1 q2 q4 hd hx hi hie (lenOfC_inv hln q5 P w) (r1 w rfl) hroom
         simp only[hadd]at hrun
         rw[hst]at hrun
         have hheap:(setB w b' (.cells (setA cA (sLen*ie.size) r.toList) elem (0,0))).heap[b']?=some (.cells (setA cA (sLen*ie.size) r.toList) elem (0,0)):=by rw[setB_heap _ _ _ _ hb'l,if_pos rfl]
         have hprel: ∀ρ1,le ρ ρ1→PRel ρ1 (old++new) (setA cA (sLen*ie.size) r.toList):=by
          intro ρ1 hl i x hxi
          rw[setA_get _ _ _ _ (by simp only[Array.length_toList];omega)]
          by_cases h1:i<old.length
          ·rw[List.getElem?_append_left h1]at hxi
           rw[if_neg (by omega)]
           rw[hlist,List.getElem?_take,if_pos (by omega)]at hxi
           obtain⟨x',h3,h4⟩:=k3 i x hxi
           exact⟨x',h3,h4.mono hl⟩
          ·rw[List.getElem?_append_right (by omega)]at hxi
           have hlt:i-old.length<new.length:=by
            rcases Nat.lt_or_ge (i-old.length) new.length with h2|h2
            ·exact h2
            ·rw[List.getElem?_eq_none h2]at hxi;cases hxi
           have h2:=r2.1
           simp only[List.size_toArray]at h2
           rw[if_pos (by simp only[Array.length_toList];omega)]
           obtain⟨x',h3,h4⟩:=r2.prel (i-old.length) x hxi
           refine⟨x',?_,h4.mono hl⟩
           rw[←hol,Array.getElem?_toList]
           exact h3
         obtain⟨j1,j2⟩:=kill_add (o:=.cells (old++new) elem (ie.size+1)) (x:=.soft b' cA.size ie.size) i2 hsn hbn (by omega) hh rfl (.inr rfl)
          (fun d hd hne=>by rw[setB_heap _ _ _ _ hb'l,if_neg hne]) hheap (by rw[setB_size];exact Nat.le_refl _) ⟨rfl,rfl,rfl⟩ (fun g=>by rw[c7]at g;cases g)
          (fun ρ1 hl he=>.soft _ elem ie.size b' _ (by rw[setA_size];exact he) hheap (hprel ρ1 hl))
         refine⟨_,_,j1,((Ext.rd sh1.1).trans (Ext.rd sh2.1)).trans j2,_,hrun,?_⟩
         rw[c2,c3]
         refine .slSoft ⟨s2.n,0,none⟩ b' _ ie.size _ _ _ (Map.put_self _ _ _) hroom ?_
         rw[ees,c2]at e4
         exact e4
       ·cases c4
      ·obtain⟨newCap,w1,hc,hrun,hw,h5,h6,h7⟩:=run_append_grow (old:=o') (new:=r) (ty:=0) q0 q1 q2 q4 hd hx hi hie hz (lenOfC_inv hln q5 P w) r1 o1 hroom bb1 (bb2 _ hroom)
       obtain⟨f1,f2,f3⟩:=fresh ρ w w1 r o' newCap hc r2 o2 hw
       obtain⟨j1,j2⟩:=kill_add (o:=.cells (old++new) elem (ie.size+1)) (x:=.soft w.heap.size (newCap*ie.size) ie.size) i2 hsn hbn (by omega) hh rfl (.inl rfl)
        (fun d hd _=>by rw[hw,Array.getElem?_push,if_neg (by omega)]) f1 (by rw[hw,Array.size_push];omega) ⟨h5,h6,h7⟩ (fun g=>by rw[c7]at g;cases g)
        (fun ρ1 hl he=>.soft _ elem ie.size w.heap.size _ (by rw[f2];exact he) f1 (f3 ρ1 hl))
       refine⟨_,w1,j1,((Ext.rd sh1.1).trans (Ext.rd sh2.1)).trans j2,_,hrun,?_⟩
       exact .slSoft ⟨s2.n,0,none⟩ w.heap.size _ ie.size _ _ _ (Map.put_self _ _ _) hc (by simp)
   ·cases h
  ·cases h
end Go.Canon
namespace Go.Canon
variable [Ghosts]
theorem append_ok(P:Program)(ev:Operand→Value){o:Oper}{c:Call}{s s1:St}{n:NextC}(ho:o.op=.call c)(h:appendC P ev c s=some (n,s1)):OpOk P ev o s s1 n:=by
 unfold appendC at h
 split at h
 ·rename_i hc
  split at h
  ·rename_i t tx x y ht htx hx hy
   have hm1:x∈o.op.operands:=by simp[ho,Op.operands,Call.operands,Array.mem_of_getElem? hx]
   have hm2:y∈o.op.operands:=by simp[ho,Op.operands,Call.operands,Array.mem_of_getElem? hy]
   split at h
   ·rename_i elem dx base sLen sCap k hd hdx hvx hln
    split at h
    ·cases h
    ·rename_i hi
     have hi:intD dx=false:=by simpa using hi
     have fin: ∀{s1:St} {v:Value},Simu P s s1 (fun ρ (q:Array TypeId×Array Value)=>q.1[0]?=some t∧q.1[1]?=some tx∧(∃x',q.2[0]?=some x'∧VRel ρ (.slice base sLen sCap) x')∧ ∃y',q.2[1]?=some y'∧VRel ρ (ev y) y') (fun q=>Builtin.append_ q.1 0 q.2) (fun ρ r=>VRel ρ v r)→OpOk P ev o s s1 (.val v):=by
      intro s1 v hs
      refine hs.use (fun ev'=>(c.argTypes,c.args.map ev')) (fun _ r=>.value r) (fun ρ ev' he=>⟨ht,htx,⟨ev' x,by simp[hx],hvx▸he x hm1⟩,ev' y,by simp[hy],he y hm2⟩) (fun ρ w ev' he=>?_) (fun ρ ρ1 ev' r _ _ hp=>.val _ _ hp)
      simp only[execOp,ho,resolve,hc,Sem.run_bind,Sem.run_pure,Result.andThen_ok,invoke,builtin]
      rfl
     split at h
     ·rename_i ie hie
      split at h
      ·rename_i new s2 hf
       split at h
       ·rename_i hle
        have: ∃v,n=.val v:=by
         split at h
         ·injection h with h;injection h with h1 h2;exact⟨_,h1.symm⟩
         ·split at h
          ·split at h
           ·injection h with h;injection h with h1 h2;exact⟨_,h1.symm⟩
           ·cases h
          ·cases h
        obtain⟨v,rfl⟩:=this
        exact fin (append_place_ok P hd hdx hi hie hln hf hle h)
       ·rename_i hle
        split at h
        ·rename_i z hz
         split at h
         ·rename_i hcond
          obtain⟨c1,c2,c3,c4⟩:=hcond
          split at h
          ·rename_i old s3 hg
           have: ∃v,n=.val v:=by
            split at h
            ·injection h with h;injection h with h1 h2;exact⟨_,h1.symm⟩
            ·split at h
             ·injection h with h;injection h with h1 h2;exact⟨_,h1.symm⟩
             ·split at h
              ·injection h with h;injection h with h1 h2;exact⟨_,h1.symm⟩
              ·cases h
             ·cases h
           obtain⟨v,rfl⟩:=this
           exact fin (append_grow_ok P hd hdx hi hie hln hz hf hle c1 c2 c3 c4 hg h)
          ·cases h
         ·cases h
        ·cases h
      ·cases h
     ·cases h
   ·cases h
  ·cases h
 ·cases h
def restB(cells:Array Value):Sem Value:=do
 let mut s:=ByteArray.empty
 for c in cells do
  let .int .u8 n:=c|stuck "bytesToString: byte expected"
  s:=s.push (UInt8.ofNat n.toNat)
 pure (.string s)
theorem bytesToString_eq(a:Addr)(len cap:Nat):Conv.bytesToString (.slice (some a) len cap)=(loadCells a len>>=restB):=rfl
def convC(P:Program)(src dst:TypeId)(x:Value)(s:St):Option (NextC×St):=
 match P.underlying src,P.underlying dst,x with
 |some (.slice e),some .string,.slice (some a) len _=>match P.underlying e with
  |some (.int .u8)=>match ldCs s a len with
   |some (l,s1)=>if l.all (ground 9)then match pureS P (restB ⟨l⟩)with
    |some v=>if ground 9 v then some (.val v,s1)else none
    |none=>none
    else none
   |none=>none
  |_=>none
 |_,_,_=>none
theorem conv_ok(P:Program)(ev:Operand→Value){o:Oper}{src dst:TypeId}{x:Operand}{s s1:St}{n:NextC}(ho:o.op=.convert src dst x)(h:convC P src dst (ev x) s=some (n,s1)):OpOk P ev o s s1 n:=by
 unfold convC at h
 split at h
 ·rename_i e a len cap hd1 hd2 hx
  split at h
  ·rename_i he
   split at h
   ·rename_i l s2 hl
    split at h
    ·rename_i hg
     split at h
     ·rename_i v hv
      split at h
      ·rename_i hgv
       injection h with h;injection h with h1 h2
       subst h1 h2
       have inv: ∀ρ ev',EvR ρ ev o.op ev'→ ∃a' c',ev' x=.slice (some a') len c'∧AdR ρ a a':=fun ρ ev' he=>by
        have h1:=he x (by simp[ho,Op.operands])
        rw[hx]at h1
        obtain⟨a',c',e,hr⟩:=h1.slice_inv
        exact⟨a',c',e,hr⟩
       have hb:Simu P s s2 (fun ρ ev'=>EvR ρ ev o.op ev') (fun ev'=>(loadCells (getA (ev' x)) len>>=restB)) (fun ρ r=>VRel ρ v r):=by
        refine Simu.bind (k:=fun _ cells=>restB cells) ((ldCs_ok P hl).map (γ:=Operand→Value) (fun ev'=>getA (ev' x)) (fun ρ ev' he=>?_)) (fun ρ ρ1 x hl he=>he.mono hl) (Simu.still fun ρ w q hq=>?_)
        ·obtain⟨a',c',e,hr⟩:=inv ρ ev' he
         rw[e];exact hr
        ·have:q.2=⟨l⟩:=by
          have h2:=hq.2
          apply Array.ext h2.1.symm
          intro i i1 i2
          exact ground_eq 9 _ (ground_all (cs:=⟨l⟩) (by simpa using hg) i i2) ρ _ (h2.2 i i2 i1)
         rw[this]
         exact⟨v,pureS_run P w _ _ hv,ground_rel 9 v hgv ρ⟩
       refine hb.use id (fun _ r=>.value r) (fun _ _ h=>h) (fun ρ w ev' hev=>?_) (fun ρ ρ1 ev' r _ _ hp=>.val _ _ hp)
       obtain⟨a',c',e1,hr⟩:=inv ρ ev' hev
       simp only[execOp,ho,id]
       rw[e1]
       simp only[convert,Sem.run_bind,run_underlying_of hd1,run_underlying_of hd2,run_underlying_of he,Result.andThen_ok,bytesToString_eq,andThen_assoc,getA,Sem.run_pure]
      ·cases h
     ·cases h
    ·cases h
   ·cases h
  ·cases h
 ·cases h
def strBytesC(P:Program)(src dst:TypeId)(x:Value)(s:St):Option (NextC×St):=
 match P.underlying src,P.underlying dst,x with
 |some _,some (.slice e),.string b=>match P.underlying e with
  |some (.int .u8)=>if s.n+1<2^40 then some (.val (.slice (some ⟨s.n,0,none⟩) b.size b.size),s.add (.ro (b.data.toList.map fun x=>.int .u8 x.toNat)))else none
  |_=>none
 |_,_,_=>none
theorem strBytes_ok(P:Program)(ev:Operand→Value){o:Oper}{src dst:TypeId}{x:Operand}{s s1:St}{n:NextC}(ho:o.op=.convert src dst x)(h:strBytesC P src dst (ev x) s=some (n,s1)):OpOk P ev o s s1 n:=by
 unfold strBytesC at h
 split at h
 ·rename_i d e b hd1 hd2 hx
  split at h
  ·rename_i he
   split at h
   ·rename_i hn
    injection h with h;injection h with h1 h2
    subst h1 h2
    refine⟨St.add_mono _ _ hn,fun F hF ρ w ev' hf hi hev=>?_⟩
    have h1:=hev x (by simp[ho,Op.operands])
    rw[hx]at h1
    have e1:=h1.string_inv
    obtain⟨cap,hcap⟩: ∃cap,cap=b.size+w.tape w.drawn (.appendCap b.size 0 e)%(2^63-b.size):=⟨_,rfl⟩
    obtain⟨cs,hcs⟩: ∃cs:Array Value,cs=b.data.map (fun x=>Value.int .u8 x.toNat)++Array.replicate (cap-b.size) (.int .u8 0):=⟨_,rfl⟩
    have hsz:cs.size=cap:=by rw[hcs];simp;show b.data.size+_=_;have:b.size=b.data.size:=rfl;omega
    let w1:World:={w with drawn:=w.drawn+1,heap:=w.heap.push (.cells cs e (cs.size,cs.size+1))}
    have hrun:(execOp ev' o).run P w=.ok (.value (.slice (some ⟨w.heap.size,0,none⟩) b.size cap)) w1:=by
     have hfz:(({w with drawn:=w.drawn+1,heap:=w.heap.push (.cells cs e (0,0))}:World).freeze ⟨w.heap.size,cs.size,none⟩ 1)=w1:=by
      simp only[World.freeze,w1]
      rw[if_neg (by decide)]
      congr 1
      apply Array.ext_getElem?
      intro i
      rw[Array.getElem?_modify,Array.getElem?_push,Array.getElem?_push]
      by_cases hi2:w.heap.size=i
      ·subst hi2;simp
      ·rw[if_neg hi2,if_neg (fun q=>hi2 q.symm),if_neg (fun q=>hi2 q.symm)]
     simp only[execOp,ho]
     rw[e1]
     simp only[convert,Sem.run_bind,run_underlying_of hd1,run_underlying_of hd2,run_underlying_of he,Result.andThen_ok,Conv.stringToBytes,run_choose,Question.forced,Question.cut,Bool.false_eq_true,if_false,←hcap,newRow,run_newObj,Sem.run_pure,markStringish,run_shape,←hcs]
     have hsh:(({w with drawn:=w.drawn+1,heap:=w.heap.push (.cells cs e (0,0))}:World).shape? w.heap.size)=some (e,cs.size):=by simp[World.shape?]
     rw[hsh]
     simp only[run_freeze,Result.andThen_ok,hfz]
    obtain⟨j1,j2⟩:=add_any (o:=.ro (b.data.toList.map fun x=>.int .u8 x.toNat)) (x:=.soft w.heap.size cs.size 1) (w1:=w1) hi (hf s.n (Nat.le_refl _) (by simp only[St.add];omega)) hn rfl rfl ⟨rfl,rfl,rfl⟩
     (fun ρ1 hl he2=>.roS _ e (cs.size,cs.size+1) 1 w.heap.size cs he2 (by simp[w1]) (by
      intro i v hv
      rw[List.getElem?_map]at hv
      obtain⟨y,hy,rfl⟩:=Option.map_eq_some_iff.1 hv
      refine⟨.int .u8 y.toNat,?_,.int _ _⟩
      have hlt:i<b.data.size:=by
       have:=(List.getElem?_eq_some_iff.1 hy).1
       simpa using this
      rw[hcs,Array.getElem?_append_left (by simpa using hlt),Array.getElem?_map]
      rw[Array.getElem?_toList]at hy
      rw[hy];rfl))
    refine⟨_,w1,j1,j2,_,hrun,.val _ _ ?_⟩
    exact .slSoft ⟨s.n,0,none⟩ w.heap.size _ 1 _ _ _ (Map.put_self _ _ _) (by omega) (by simp;omega)
   ·cases h
  ·cases h
 ·cases h
theorem TRel.put{ρ:Map}{tm:Tree Value}{sz:Nat}{a:Array Value}(h:TRel ρ tm sz a){d:Nat}{v v':Value}(hv:VRel ρ v v')(hd:d<sz)(h40:d+1<2^40):TRel ρ (tm.set 40 d v) sz (a.setIfInBounds d v'):=by
 refine⟨by simp[h.1],fun t=>?_⟩
 rw[Tree.get_set 40 _ _ _ _ h40,Array.getD_eq_getD_getElem?,Array.getElem?_setIfInBounds]
 by_cases e:t=d
 ·subst e
  rw[if_pos rfl,if_pos rfl,if_pos (by have:=h.1;omega)]
  exact hv
 ·rw[if_neg e,if_neg (fun q=>e q.symm)]
  have:=h.2 t
  rwa [Array.getD_eq_getD_getElem?]at this
def putMany(tm:Tree Value)(sz:Nat):List Tmp→List Value→Option (Tree Value)
 |[],[]=>some tm
 |d::ds,v::vs=>if d<sz∧d+1<2^40 then putMany (tm.set 40 d v) sz ds vs else none
 |_,_=>none
theorem putMany_ok{ρ:Map}{sz:Nat}: ∀(ds:List Tmp) (vs vs':List Value) (tm tm1:Tree Value) (a:Array Value),TRel ρ tm sz a→LRel ρ vs vs'→putMany tm sz ds vs=some tm1→
 ds.length=vs'.length∧TRel ρ tm1 sz ((ds.zip vs').foldl (fun t (p,v)=>t.setIfInBounds p v) a)
 |[],[],[],tm,tm1,a,h,_,e=>by
  simp only[putMany]at e;injection e with e;subst e
  exact⟨rfl,h⟩
 |d::ds,v::vs,v'::vs',tm,tm1,a,h,hv,e=>by
  simp only[putMany]at e
  split at e
  ·rename_i hd
   obtain⟨h1,h2⟩:=putMany_ok ds vs vs' _ tm1 _ (h.put hv.1 hd.1 hd.2) hv.2 e
   exact⟨by simp[h1],by simpa using h2⟩
  ·cases e
 |[],_::_,_,_,_,_,_,_,e=>by simp[putMany]at e
 |_::_,[],_,_,_,_,_,_,e=>by simp[putMany]at e
 |_,[],_::_,_,_,_,_,hv,_=>hv.elim
 |_,_::_,[],_,_,_,_,hv,_=>hv.elim
def loopAt(s:St)(l:Nat):Option (LoopState×Option Code×FuncId×Tree Value×Nat×Array Tmp×Code×Code×Nat):=
 if l<s.n∧l+1<2^40 then match s.t.get l with
  |some (.loop st pe fn tm sz ps as bo df)=>some (st,pe,fn,tm,sz,ps,as,bo,df)
  |_=>none
 else none
theorem loopAt_get{s:St}{l:Nat}{st:LoopState}{pe:Option Code}{fn:FuncId}{tm:Tree Value}{sz:Nat}{ps:Array Tmp}{as bo:Code}{df:Nat}(h:loopAt s l=some (st,pe,fn,tm,sz,ps,as,bo,df)):
 l<s.n∧l+1<2^40∧s.t.get l=some (.loop st pe fn tm sz ps as bo df):=by
 unfold loopAt at h
 split at h
 ·rename_i hl
  split at h
  ·rename_i hg
   injection h with h
   simp only[Prod.mk.injEq]at h
   obtain⟨rfl,rfl,rfl,rfl,rfl,rfl,rfl,rfl,rfl⟩:=h
   exact⟨hl.1,hl.2,hg⟩
  ·cases h
 ·cases h
theorem run_getLoop{P:Program}{w:World}{l:Nat}{r:Loop}(h:w.heap[l]?=some (.loop r)):(Instr.getLoop l).run P w=.ok r w:=by
 unfold Instr.getLoop
 rw[Sem.run_bind]
 simp[getObj,Sem.run,h]
theorem run_setObj{P:Program}{w:World}{l:Nat}{r:Loop}(h:w.heap[l]?=some (.loop r))(o:Obj):(setObj l o).run P w=.ok () (setB w l o):=by
 simp[setObj,Sem.run,h,setB]
def yieldC(ev:Operand→Value)(c:Call)(s:St):Option (NextC×St):=
 match c.callee with
 |.value fo=>match ev fo with
  |.func (.yield l) first _=>if first.isEmpty then match loopAt s l with
   |some (_,_,fn,tm,sz,ps,as,bo,_)=>match putMany tm sz ps.toList (c.args.map ev).toList with
    |some tm1=>some (.round l fn tm1 sz as bo,s.rd l)
    |none=>none
   |none=>none
   else none
  |_=>none
 |_=>none
theorem yield_ok(P:Program)(ev:Operand→Value){o:Oper}{c:Call}{s s1:St}{n:NextC}(ho:o.op=.call c)(h:yieldC ev c s=some (n,s1)):OpOk P ev o s s1 n:=by
 unfold yieldC at h
 split at h
 ·rename_i fo hc
  split at h
  ·rename_i l first cap hx
   split at h
   ·rename_i hemp
    split at h
    ·rename_i st pe fn tm sz ps as bo df hl
     split at h
     ·rename_i tm1 hp
      injection h with h;injection h with h1 h2
      subst h1 h2
      obtain⟨l1,l2,l3⟩:=loopAt_get hl
      refine moves_rd s l fun ρ w ev' he hat _=>?_
      have hA:=hat l1
      rw[l3]at hA
      cases hA with
      |loop b' _ _ _ _ _ _ _ _ _ tmps d' k1 k2 k3 k4=>
       have h1:=he fo (by simp[ho,Op.operands,Call.operands,hc])
       rw[hx]at h1
       have hargs:=ARel.map (ρ:=ρ) c.args ev ev' fun z hz=>he z (by simp[ho,Op.operands,Call.operands,hz])
       generalize hq:ev' fo=q at h1
       cases h1 with
       |yield _ l' e=>
        rw[k1]at e
        injection e with e
        subst e
        obtain⟨e1,e2⟩:=putMany_ok ps.toList _ _ tm tm1 tmps k3 hargs.lrel hp
        refine⟨.round b' fn ((ps.zip (c.args.map ev')).foldl (fun t (p,v)=>t.setIfInBounds p v) tmps) as bo,?_,.round _ _ _ _ _ _ _ _ k1 ?_⟩
        ·have hsz:(c.args.map ev').size=ps.size:=by
          have:ps.toList.length=(c.args.map ev').toList.length:=e1
          simpa using this.symm
         simp only[execOp,ho,resolve,hc,hq,Deferred.ofValue,Sem.run_bind,Sem.run_pure,Result.andThen_ok,invoke,Array.empty_append,Instr.yield,run_getLoop k4,hsz,ne_eq,not_true,if_false]
        ·have e3:(ps.zip (c.args.map ev')).foldl (fun t (p,v)=>t.setIfInBounds p v) tmps=(ps.toList.zip (c.args.map ev').toList).foldl (fun t (p,v)=>t.setIfInBounds p v) tmps:=by
          rw[←Array.foldl_toList,Array.toList_zip]
         rw[e3]
         exact e2
     ·cases h
    ·cases h
   ·cases h
  ·cases h
 ·cases h
def arrSliceC(P:Program)(t:TypeId)(x:Value)(lo hi mx:Option Value)(s:St):Option (NextC×St):=
 match P.underlying t,x,boundV lo,boundV hi,mx with
 |some (.array n elem),.pointer (some a),some lo,some hi,none=>match P.info? elem,softOf s a.block with
  |some ei,some sf=>
   if sf==0&&0≤lo.getD 0&&lo.getD 0≤hi.getD n&&hi.getD n≤n&&0≤hi.getD n then
    some (.val (.slice (some (if n=(lo.getD 0).toNat then a else a.add ((lo.getD 0).toNat*ei.size))) ((hi.getD n).toNat-(lo.getD 0).toNat) (n-(lo.getD 0).toNat)),s.rd a.block)
   else none
  |_,_=>none
 |_,_,_,_,_=>none
theorem arrSlice_ok(P:Program)(ev:Operand→Value){o:Oper}{t:TypeId}{x:Operand}{lo hi mx:Option Operand}{s s1:St}{n:NextC}(ho:o.op=.slice t x lo hi mx)(h:arrSliceC P t (ev x) (lo.map ev) (hi.map ev) (mx.map ev) s=some (n,s1)):OpOk P ev o s s1 n:=by
 unfold arrSliceC at h
 split at h
 ·rename_i len elem a lo' hi' hd hx hlo hhi hmx
  split at h
  ·rename_i ei sf hei hsf
   split at h
   ·rename_i hb
    simp only[Bool.and_eq_true,beq_iff_eq,decide_eq_true_eq]at hb
    obtain⟨⟨⟨⟨b5,b1⟩,b2⟩,b3⟩,b4⟩:=hb
    injection h with h;injection h with h h'
    subst h h'
    refine moves_rd s a.block fun ρ w ev' he hat _=>?_
    have hsoft:=softOf_at hsf hat
    have h1:=he x (by simp[ho,Op.operands])
    rw[hx]at h1
    have hm:mx=none:=by cases mx with
     |none=>rfl
     |some _=>simp at hmx
    subst hm
    have opt: ∀(z:Option Operand),(∀y,z=some y→y∈o.op.operands)→ ∀q,z.map ev=some q→ ∃q',z.map ev'=some q'∧VRel ρ q q':=by
     intro z hz q hq
     cases z with
     |none=>cases hq
     |some y=>
      simp only[Option.map_some,Option.some.injEq]at hq
      subst hq
      exact⟨ev' y,rfl,he y (hz y rfl)⟩
    have non: ∀(z:Option Operand),z.map ev=none→z.map ev'=none:=by
     intro z hz
     cases z with
     |none=>rfl
     |some y=>cases hz
    have k1:=boundV_inv hlo (opt lo (fun y hy=>by simp[ho,Op.operands,hy])) (non lo)
    have k2:=boundV_inv hhi (opt hi (fun y hy=>by simp[ho,Op.operands,hy])) (non hi)
    have hbounds:(Instr.sliceBounds false len len (lo.map ev') (hi.map ev') (Option.map ev' none)).run P w=.ok ((lo'.getD 0).toNat,(hi'.getD len).toNat,len) w:=by
     unfold Instr.sliceBounds
     simp only[Option.map_none,Sem.run_bind,Sem.run_pure,Result.andThen_ok,Option.isSome_none,Bool.false_eq_true,if_false]
     rcases k2 with⟨e1,e2⟩|⟨kk,i,e1,e2⟩
     ·subst e1
      rw[e2]
      simp only[Option.getD_none]at b2 b3 b4⊢
      try simp only[Sem.run_bind,Sem.run_pure,Result.andThen_ok]
      rcases k1 with⟨f1,f2⟩|⟨kk,j,f1,f2⟩
      ·subst f1;rw[f2];simp
      ·subst f1
       rw[f2]
       simp only[Option.getD_some]at b1 b2⊢
       simp only[Sem.run_bind,run_bound P w kk j len _ b1 b2,Result.andThen_ok]
       simp
     ·subst e1
      rw[e2]
      simp only[Option.getD_some]at b2 b3 b4⊢
      have hi2:=run_bound P w kk i len .sliceAlen b4 b3
      simp only[Sem.run_bind,hi2,Result.andThen_ok]
      rcases k1 with⟨f1,f2⟩|⟨kk2,j,f1,f2⟩
      ·subst f1;rw[f2];simp
      ·subst f1
       rw[f2]
       simp only[Option.getD_some]at b1 b2⊢
       simp only[Sem.run_bind,run_bound P w kk2 j i.toNat _ b1 (by omega),Result.andThen_ok]
       simp
    obtain⟨b',hb'⟩: ∃b',ρ a.block=.hard b':=by
     rcases hsoft with⟨_,b',h2⟩|⟨b',m,es,_,h3⟩
     ·exact⟨b',h2⟩
     ·omega
    obtain⟨a',e,hA⟩:=h1.ptr_inv
    refine⟨.value (.slice (some (if len=(lo'.getD 0).toNat then a' else a'.add ((lo'.getD 0).toNat*ei.size))) ((hi'.getD len).toNat-(lo'.getD 0).toNat) (len-(lo'.getD 0).toNat)),?_,.val _ _ ?_⟩
    ·simp only[execOp,ho,Instr.sliceAt]
     rw[Sem.run_bind,Sem.run_bind,run_underlying_of hd,Result.andThen_ok,e]
     simp only[Instr.sureAddr,Sem.run_bind,Sem.run_pure,Result.andThen_ok,hbounds,run_sizeOf_of hei]
    ·have off: ∀(q:Addr) (z:Nat),(q.add z).block=q.block:=by
      intro q z
      unfold Addr.add
      split<;>rfl
     have fin: ∀(z z':Addr),z.block=a.block→AdR ρ z z'→ ∀n c,VRel ρ (.slice (some z) n c) (.slice (some z') n c):=by
      intro z z' hz hr n c
      rcases hr with⟨h1,h2,h3⟩|h1
      ·rw[hz,hb']at h1
       injection h1 with h1
       obtain⟨zb,zo,zs⟩:=z'
       simp only at h1 h2 h3
       subst h1 h2 h3
       exact .slHard z b' n c (by rw[hz];exact hb')
      ·rw[hz,hb']at h1;cases h1
     split
     ·exact fin _ _ rfl hA _ _
     ·exact fin _ _ (off _ _) (hA.add _) _ _
   ·cases h
  ·cases h
 ·cases h
end Go.Canon
namespace Go.Canon
variable [Ghosts]
def pureR(P:Program)(ev:Operand→Value)(o:Oper)(s:St):Option (NextC×St):=
 match pureOp P ev o with
 |some v=>some (.val v,s)
 |none=>none
theorem pureR_ok(P:Program){ev:Operand→Value}{o:Oper}{s s1:St}{n:NextC}(h:pureR P ev o s=some (n,s1)):OpOk P ev o s s1 n:=by
 unfold pureR at h
 split at h
 ·rename_i v hv
  injection h with h;injection h with h1 h2
  subst h1 h2
  exact pureOp_ok P _ hv
 ·cases h
def stillR(v:Option Value)(s:St):Option (NextC×St):=
 match v with
 |some v=>some (.val v,s)
 |none=>none
theorem stillR_inv{v:Option Value}{s s1:St}{n:NextC}(h:stillR v s=some (n,s1)): ∃x,v=some x∧n=.val x∧s1=s:=by
 unfold stillR at h
 split at h
 ·injection h with h;injection h with h1 h2
  exact⟨_,rfl,h1.symm,h2.symm⟩
 ·cases h
def callAll(P:Program)(ev:Operand→Value)(o:Oper)(c:Call)(s:St):Option (NextC×St):=
 match c.callee with
 |.builtin b=>match b with
  |.append=>appendC P ev c s
  |.copy=>copyC P ev c s
  |.len=>match lenC P ev c with
   |some v=>some (.val v,s)
   |none=>pureR P ev o s
  |_=>pureR P ev o s
 |.value fo=>match ev fo with
  |.func (.yield _) _ _=>yieldC ev c s
  |_=>match callC P ev c with
   |some n=>some (n,s)
   |none=>pureR P ev o s
 |.invoke _ _=>none
def shiftC(op:BinOp)(k:IntKind)(a b:Int)(s:St):Option (NextC×St):=
 match need (decide (¬b<0)) s with
 |some s1=>match op with
  |.shl=>some (.val (.int k (k.wrap (a*2^(min b.toNat k.bits)))),s1)
  |.shr=>some (.val (.int k (a.fdiv (2^(min b.toNat k.bits)))),s1)
  |_=>none
 |none=>none
theorem shiftC_ok(P:Program){ev:Operand→Value}{o:Oper}{op:BinOp}{t u:TypeId}{x y:Operand}{k j:IntKind}{a b:Int}{s s1:St}{n:NextC}(ho:o.op=.binOp op t x y u)(hx:ev x=.int k a)(hy:ev y=.int j b)(h:shiftC op k a b s=some (n,s1)):OpOk P ev o s s1 n:=by
 have inv: ∀ρ ev',EvR ρ ev o.op ev'→ev' x=.int k a∧ev' y=.int j b:=fun ρ ev' he=>by
  have h1:=he x (by simp[ho,Op.operands])
  have h2:=he y (by simp[ho,Op.operands])
  rw[hx]at h1
  rw[hy]at h2
  exact⟨h1.int_inv,h2.int_inv⟩
 unfold shiftC at h
 split at h
 ·rename_i s2 hn
  split at h
  ·injection h with h;injection h with h1 h2
   subst h1 h2
   refine need_ok hn fun hb=>Simu.still fun ρ w ev' he=>⟨.value (.int k (k.wrap (a*2^(min b.toNat k.bits)))),?_,.val _ _ (.int _ _)⟩
   have hb:=of_decide_eq_true hb
   obtain⟨e1,e2⟩:=inv ρ ev' he
   simp[execOp,ho,e1,e2,eqGuard,binOp,Op.shift,hb]
  ·injection h with h;injection h with h1 h2
   subst h1 h2
   refine need_ok hn fun hb=>Simu.still fun ρ w ev' he=>⟨.value (.int k (a.fdiv (2^(min b.toNat k.bits)))),?_,.val _ _ (.int _ _)⟩
   have hb:=of_decide_eq_true hb
   obtain⟨e1,e2⟩:=inv ρ ev' he
   simp[execOp,ho,e1,e2,eqGuard,binOp,Op.shift,hb]
  ·cases h
 ·cases h
def divC(op:BinOp)(k:IntKind)(a b:Int)(s:St):Option (NextC×St):=
 match need (decide (¬b=0)) s with
 |some s1=>match op with
  |.quo=>some (.val (.int k (k.wrap (a.tdiv b))),s1)
  |.rem=>some (.val (.int k (a.tmod b)),s1)
  |_=>none
 |none=>none
theorem divC_ok(P:Program){ev:Operand→Value}{o:Oper}{op:BinOp}{t u:TypeId}{x y:Operand}{k:IntKind}{a b:Int}{s s1:St}{n:NextC}(ho:o.op=.binOp op t x y u)(hx:ev x=.int k a)(hy:ev y=.int k b)(h:divC op k a b s=some (n,s1)):OpOk P ev o s s1 n:=by
 have inv: ∀ρ ev',EvR ρ ev o.op ev'→ev' x=.int k a∧ev' y=.int k b:=fun ρ ev' he=>by
  have h1:=he x (by simp[ho,Op.operands])
  have h2:=he y (by simp[ho,Op.operands])
  rw[hx]at h1
  rw[hy]at h2
  exact⟨h1.int_inv,h2.int_inv⟩
 unfold divC at h
 split at h
 ·rename_i s2 hn
  split at h
  ·injection h with h;injection h with h1 h2
   subst h1 h2
   refine need_ok hn fun hb=>Simu.still fun ρ w ev' he=>⟨.value (.int k (k.wrap (a.tdiv b))),?_,.val _ _ (.int _ _)⟩
   have hb:=of_decide_eq_true hb
   obtain⟨e1,e2⟩:=inv ρ ev' he
   simp[execOp,ho,e1,e2,eqGuard,binOp,Op.intDiv,hb]
  ·injection h with h;injection h with h1 h2
   subst h1 h2
   refine need_ok hn fun hb=>Simu.still fun ρ w ev' he=>⟨.value (.int k (a.tmod b)),?_,.val _ _ (.int _ _)⟩
   have hb:=of_decide_eq_true hb
   obtain⟨e1,e2⟩:=inv ρ ev' he
   simp[execOp,ho,e1,e2,eqGuard,binOp,Op.intDiv,hb]
  ·cases h
 ·cases h
def askP(P:Program)(ev:Operand→Value)(o:Oper)(s:St):Option (NextC×St):=
 match pureOp P ev o with
 |some (.bool b)=>askR b s
 |some v=>some (.val v,s)
 |none=>none
theorem askP_ok(P:Program){ev:Operand→Value}{o:Oper}{s s1:St}{n:NextC}(h:askP P ev o s=some (n,s1)):OpOk P ev o s s1 n:=by
 unfold askP at h
 split at h
 ·rename_i b hv
  exact askR_ok (pureOp_ok P s hv) h
 ·rename_i v _ hv
  injection h with h;injection h with h1 h2;subst h1 h2
  exact pureOp_ok P _ hv
 ·cases h
def intC(P:Program)(ev:Operand→Value)(o:Oper)(op:BinOp)(k j:IntKind)(a b:Int)(s:St):Option (NextC×St):=
 match op with
 |.shl=>shiftC .shl k a b s
 |.shr=>shiftC .shr k a b s
 |.quo=>if k=j then divC .quo k a b s else none
 |.rem=>if k=j then divC .rem k a b s else none
 |_=>askP P ev o s
theorem intC_ok(P:Program){ev:Operand→Value}{o:Oper}{op:BinOp}{t u:TypeId}{x y:Operand}{k j:IntKind}{a b:Int}{s s1:St}{n:NextC}(ho:o.op=.binOp op t x y u)(hx:ev x=.int k a)(hy:ev y=.int j b)(h:intC P ev o op k j a b s=some (n,s1)):OpOk P ev o s s1 n:=by
 unfold intC at h
 split at h
 ·exact shiftC_ok P ho hx hy h
 ·exact shiftC_ok P ho hx hy h
 ·split at h
  ·rename_i e;subst e;exact divC_ok P ho hx hy h
  ·cases h
 ·split at h
  ·rename_i e;subst e;exact divC_ok P ho hx hy h
  ·cases h
 ·exact askP_ok P h
def indexAddrS(P:Program)(t:TypeId)(x i:Value)(s:St):Option (NextC×St):=
 match i with
 |.int _ n=>match P.underlying t,x with
  |some (.array len elem),.pointer (some a)=>match P.info? elem with
   |some ie=>match need (decide (0≤n∧n<len)) s with
    |some s1=>some (.val (.pointer (some (a.add (n.toNat*ie.size)))),s1)
    |none=>none
   |none=>none
  |some (.slice elem),.slice (some a) len _=>match P.info? elem with
   |some ie=>match need (decide (0≤n∧n<len)) s with
    |some s1=>some (.val (.pointer (some (a.add (n.toNat*ie.size)))),s1)
    |none=>none
   |none=>none
  |_,_=>none
 |_=>none
theorem indexAddrS_ok(P:Program)(ev:Operand→Value){o:Oper}{t:TypeId}{x i:Operand}{s s1:St}{n:NextC}(ho:o.op=.indexAddr t x i)(h:indexAddrS P t (ev x) (ev i) s=some (n,s1)):OpOk P ev o s s1 n:=by
 unfold indexAddrS at h
 split at h
 ·rename_i k m hm
  split at h
  ·rename_i len elem a hd hx
   split at h
   ·rename_i ie hie
    split at h
    ·rename_i s2 hn
     injection h with h;injection h with h1 h2;subst h1 h2
     refine need_ok hn fun hb=>indexAddr_ok P ev _ ho ?_
     have hb:=of_decide_eq_true hb
     unfold indexAddrC
     rw[hm]
     simp only[hd,hx,hie]
     rw[if_pos hb]
    ·cases h
   ·cases h
  ·rename_i elem a len c hd hx
   split at h
   ·rename_i ie hie
    split at h
    ·rename_i s2 hn
     injection h with h;injection h with h1 h2;subst h1 h2
     refine need_ok hn fun hb=>indexAddr_ok P ev _ ho ?_
     have hb:=of_decide_eq_true hb
     unfold indexAddrC
     rw[hm]
     simp only[hd,hx,hie]
     rw[if_pos hb]
    ·cases h
   ·cases h
  ·cases h
 ·cases h
def twoInts(P:Program)(t:TypeId):Option (TypeId×TypeId×IntKind):=
 match P.underlying t with
 |some (.struct fs)=>match fs.toList with
  |[f,g]=>match P.underlying f.type,P.underlying g.type with
   |some (.int k),some (.int j)=>if k=j∧f.offset=0∧g.offset=1∧f.name≠ "_" ∧g.name≠ "_" ∧P.stoodInHeld t=false then some (f.type,g.type,k)else none
   |_,_=>none
  |_=>none
 |_=>none
theorem equal_two{P:Program}{t a b:TypeId}{k:IntKind}(h:twoInts P t=some (a,b,k))(h1 l1 h2 l2:Int)(w:World):
 (Op.equal t (.agg #[.int k h1,.int k l1]) (.agg #[.int k h2,.int k l2])).run P w=.ok (decide (h1=h2∧l1=l2)) w∧
 (∀op x y,(eqGuard op t x y (.agg #[.int k h1,.int k l1]) (.agg #[.int k h2,.int k l2])).run P w=.ok () w):=by
 unfold twoInts at h
 split at h
 ·rename_i fs hd
  split at h
  ·rename_i f g hfs
   split at h
   ·rename_i k' j hf hg
    split at h
    ·rename_i hc
     obtain⟨rfl,c2,c3,c4,c5,c6⟩:=hc
     injection h with h;injection h with e1 h;injection h with e2 e3
     subst e1 e2 e3
     have e:fs= #[f,g]:=Array.ext' hfs
     subst e
     have hm:Op.maxDepth=9998+1+1:=rfl
     refine⟨?_,?_⟩
     ·unfold Op.equal
      rw[hm]
      unfold Op.equalIn
      rw[Sem.run_bind,run_underlying_of hd,Result.andThen_ok]
      have p0: ∀x y w,(part f.type #[.int k' x,.int k' y] f.offset).run P w=.ok (.int k' x) w:=fun x y w=>by
       simp[part,run_isAgg_of hf,aggD,c2]
      have p1: ∀x y w,(part g.type #[.int k' x,.int k' y] g.offset).run P w=.ok (.int k' y) w:=fun x y w=>by
       simp[part,run_isAgg_of hg,aggD,c3]
      have q0: ∀x y w,(Op.equalIn (9998+1) f.type (.int k' x) (.int k' y)).run P w=.ok (x==y) w:=fun x y w=>by
       unfold Op.equalIn;rw[Sem.run_bind,run_underlying_of hf];simp
      have q1: ∀x y w,(Op.equalIn (9998+1) g.type (.int k' x) (.int k' y)).run P w=.ok (x==y) w:=fun x y w=>by
       unfold Op.equalIn;rw[Sem.run_bind,run_underlying_of hg];simp
      simp[c6,c4,c5,Sem.run_bind,p0,p1,q0,q1,Sem.run]
      by_cases hh:h1=h2<;>by_cases hl:l1=l2<;>simp[hh,hl,Sem.run_bind,p0,p1,q0,q1,Sem.run]
     ·intro op x y
      have p0: ∀x y w,(part f.type #[.int k' x,.int k' y] f.offset).run P w=.ok (.int k' x) w:=fun x y w=>by
       simp[part,run_isAgg_of hf,aggD,c2]
      have p1: ∀x y w,(part g.type #[.int k' x,.int k' y] g.offset).run P w=.ok (.int k' y) w:=fun x y w=>by
       simp[part,run_isAgg_of hg,aggD,c3]
      have q0: ∀x y w,(Op.eqGuardIn (9998+1) f.type (.int k' x) (.int k' y)).run P w=.ok false w:=fun x y w=>by
       unfold Op.eqGuardIn;rw[Sem.run_bind,run_underlying_of hf];simp
      have q1: ∀x y w,(Op.eqGuardIn (9998+1) g.type (.int k' x) (.int k' y)).run P w=.ok false w:=fun x y w=>by
       unfold Op.eqGuardIn;rw[Sem.run_bind,run_underlying_of hg];simp
      have hg2:(Op.eqGuardIn Op.maxDepth t (.agg #[.int k' h1,.int k' l1]) (.agg #[.int k' h2,.int k' l2])).run P w=.ok false w:=by
       rw[hm]
       unfold Op.eqGuardIn
       rw[Sem.run_bind,run_underlying_of hd,Result.andThen_ok]
       simp[c4,c5,Sem.run_bind,p0,p1,q0,q1,Sem.run]
      unfold eqGuard
      cases op<;>simp[Sem.run_bind,Sem.run,hg2]
      all_goals
       split<;>simp[Sem.run_bind,Sem.run,hg2]
    ·cases h
   ·cases h
  ·cases h
 ·cases h
def eq2C(P:Program)(op:BinOp)(t:TypeId)(xs ys:Array Value)(s:St):Option (NextC×St):=
 match twoInts P t with
 |some (_,_,k)=>match xs.toList,ys.toList with
  |[.int k1 h1,.int k2 l1],[.int k3 h2,.int k4 l2]=>if k1=k∧k2=k∧k3=k∧k4=k then match op with
   |.eql=>askR (decide (h1=h2∧l1=l2)) s
   |.neq=>askR (!decide (h1=h2∧l1=l2)) s
   |_=>none
   else none
  |_,_=>none
 |none=>none
theorem eq2C_ok(P:Program){ev:Operand→Value}{o:Oper}{op:BinOp}{t u:TypeId}{x y:Operand}{xs ys:Array Value}{s s1:St}{n:NextC}(ho:o.op=.binOp op t x y u)(hx:ev x=.agg xs)(hy:ev y=.agg ys)(h:eq2C P op t xs ys s=some (n,s1)):OpOk P ev o s s1 n:=by
 unfold eq2C at h
 split at h
 ·rename_i a b k hk
  split at h
  ·rename_i k1 h1 k2 l1 k3 h2 k4 l2 e1 e2
   split at h
   ·rename_i hc
    obtain⟨rfl,rfl,rfl,rfl⟩:=hc
    have ex:xs= #[.int k4 h1,.int k4 l1]:=Array.ext' e1
    have ey:ys= #[.int k4 h2,.int k4 l2]:=Array.ext' e2
    subst ex ey
    have inv: ∀ρ ev',EvR ρ ev o.op ev'→ev' x=.agg #[.int k4 h1,.int k4 l1]∧ev' y=.agg #[.int k4 h2,.int k4 l2]:=fun ρ ev' he=>by
     have q1:=he x (by simp[ho,Op.operands])
     have q2:=he y (by simp[ho,Op.operands])
     rw[hx]at q1
     rw[hy]at q2
     exact⟨ground_eq 9 _ rfl ρ _ q1,ground_eq 9 _ rfl ρ _ q2⟩
    split at h
    ·refine askR_ok (Simu.still fun ρ w ev' he=>⟨.value (.bool (decide (h1=h2∧l1=l2))),?_,.val _ _ (.bool _)⟩) h
     obtain⟨i1,i2⟩:=inv ρ ev' he
     obtain⟨r1,r2⟩:=equal_two hk h1 l1 h2 l2 w
     simp only[execOp,ho,i1,i2]
     rw[Sem.run_bind,Sem.run_bind,r2,Result.andThen_ok,binOp_eql _ _ _ rfl,Sem.run_bind,r1]
     rfl
    ·refine askR_ok (Simu.still fun ρ w ev' he=>⟨.value (.bool (!decide (h1=h2∧l1=l2))),?_,.val _ _ (.bool _)⟩) h
     obtain⟨i1,i2⟩:=inv ρ ev' he
     obtain⟨r1,r2⟩:=equal_two hk h1 l1 h2 l2 w
     simp only[execOp,ho,i1,i2]
     rw[Sem.run_bind,Sem.run_bind,r2,Result.andThen_ok,binOp_neq _ _ _ rfl,Sem.run_bind,r1]
     rfl
    ·cases h
   ·cases h
  ·cases h
 ·cases h
theorem equalIn_two{P:Program}{t a b:TypeId}{k:IntKind}(h:twoInts P t=some (a,b,k))(d:Nat)(h1 l1 h2 l2:Int)(w:World):
 (Op.equalIn (d+1+1) t (.agg #[.int k h1,.int k l1]) (.agg #[.int k h2,.int k l2])).run P w=.ok (decide (h1=h2∧l1=l2)) w∧
 (Op.eqGuardIn (d+1+1) t (.agg #[.int k h1,.int k l1]) (.agg #[.int k h2,.int k l2])).run P w=.ok false w:=by
 unfold twoInts at h
 split at h
 ·rename_i fs hd
  split at h
  ·rename_i f g hfs
   split at h
   ·rename_i k' j hf hg
    split at h
    ·rename_i hc
     obtain⟨rfl,c2,c3,c4,c5,c6⟩:=hc
     injection h with h;injection h with e1 h;injection h with e2 e3
     subst e1 e2 e3
     have e:fs= #[f,g]:=Array.ext' hfs
     subst e
     have p0: ∀x y w,(part f.type #[.int k' x,.int k' y] f.offset).run P w=.ok (.int k' x) w:=fun x y w=>by
      simp[part,run_isAgg_of hf,aggD,c2]
     have p1: ∀x y w,(part g.type #[.int k' x,.int k' y] g.offset).run P w=.ok (.int k' y) w:=fun x y w=>by
      simp[part,run_isAgg_of hg,aggD,c3]
     refine⟨?_,?_⟩
     ·unfold Op.equalIn
      rw[Sem.run_bind,run_underlying_of hd,Result.andThen_ok]
      have q0: ∀x y w,(Op.equalIn (d+1) f.type (.int k' x) (.int k' y)).run P w=.ok (x==y) w:=fun x y w=>by
       unfold Op.equalIn;rw[Sem.run_bind,run_underlying_of hf];simp
      have q1: ∀x y w,(Op.equalIn (d+1) g.type (.int k' x) (.int k' y)).run P w=.ok (x==y) w:=fun x y w=>by
       unfold Op.equalIn;rw[Sem.run_bind,run_underlying_of hg];simp
      simp[c6,c4,c5,Sem.run_bind,p0,p1,q0,q1,Sem.run]
      by_cases hh:h1=h2<;>by_cases hl:l1=l2<;>simp[hh,hl,Sem.run_bind,p0,p1,q0,q1,Sem.run]
     ·have q0: ∀x y w,(Op.eqGuardIn (d+1) f.type (.int k' x) (.int k' y)).run P w=.ok false w:=fun x y w=>by
       unfold Op.eqGuardIn;rw[Sem.run_bind,run_underlying_of hf];simp
      have q1: ∀x y w,(Op.eqGuardIn (d+1) g.type (.int k' x) (.int k' y)).run P w=.ok false w:=fun x y w=>by
       unfold Op.eqGuardIn;rw[Sem.run_bind,run_underlying_of hg];simp
      unfold Op.eqGuardIn
      rw[Sem.run_bind,run_underlying_of hd,Result.andThen_ok]
      simp[c4,c5,Sem.run_bind,p0,p1,q0,q1,Sem.run]
    ·cases h
   ·cases h
  ·cases h
 ·cases h
theorem twoInts_agg{P:Program}{t a b:TypeId}{k:IntKind}(h:twoInts P t=some (a,b,k))(w:World):(isAgg t).run P w=.ok true w:=by
 unfold twoInts at h
 split at h
 ·rename_i fs hd
  rw[run_isAgg_of hd];rfl
 ·cases h
def fourInts(P:Program)(t:TypeId):Option (TypeId×TypeId×TypeId×IntKind×IntKind×IntKind):=
 match P.underlying t with
 |some (.struct fs)=>match fs.toList with
  |[f,g,e]=>match twoInts P f.type,P.info? f.type,P.underlying g.type,P.underlying e.type with
   |some (_,_,k),some i,some (.int kg),some (.int ke)=>if i.size=2∧f.offset=0∧g.offset=2∧e.offset=3∧f.name≠ "_" ∧g.name≠ "_" ∧e.name≠ "_" ∧P.stoodInHeld t=false then some (f.type,g.type,e.type,k,kg,ke)else none
   |_,_,_,_=>none
  |_=>none
 |_=>none
theorem equal_four{P:Program}{t a b c:TypeId}{k kg ke:IntKind}(h:fourInts P t=some (a,b,c,k,kg,ke))(h1 l1 f1 e1 h2 l2 f2 e2:Int)(w:World):
 (Op.equal t (.agg #[.int k h1,.int k l1,.int kg f1,.int ke e1]) (.agg #[.int k h2,.int k l2,.int kg f2,.int ke e2])).run P w=.ok (decide (h1=h2∧l1=l2∧f1=f2∧e1=e2)) w∧
 (∀op x y,(eqGuard op t x y (.agg #[.int k h1,.int k l1,.int kg f1,.int ke e1]) (.agg #[.int k h2,.int k l2,.int kg f2,.int ke e2])).run P w=.ok () w):=by
 unfold fourInts at h
 split at h
 ·rename_i fs hd
  split at h
  ·rename_i f g e hfs
   split at h
   ·rename_i a' b' k' i kg' ke' hf hi hg he
    split at h
    ·rename_i hc
     obtain⟨c0,c1,c2,c3,c4,c5,c7,c6⟩:=hc
     injection h with h;injection h with z1 h;injection h with z2 h;injection h with z3 h;injection h with z4 h;injection h with z5 z6
     subst z1 z2 z3 z4 z5 z6
     have ee:fs= #[f,g,e]:=Array.ext' hfs
     subst ee
     have hm:Op.maxDepth=9997+1+1+1:=rfl
     have p0: ∀x y u v w,(part f.type #[.int k' x,.int k' y,.int kg' u,.int ke' v] f.offset).run P w=.ok (.agg #[.int k' x,.int k' y]) w:=fun x y u v w=>by
      simp[part,twoInts_agg hf,run_sizeOf_of hi,c1,c0,Sem.run_bind]
     have p1: ∀x y u v w,(part g.type #[.int k' x,.int k' y,.int kg' u,.int ke' v] g.offset).run P w=.ok (.int kg' u) w:=fun x y u v w=>by
      simp[part,run_isAgg_of hg,aggD,c2]
     have p2: ∀x y u v w,(part e.type #[.int k' x,.int k' y,.int kg' u,.int ke' v] e.offset).run P w=.ok (.int ke' v) w:=fun x y u v w=>by
      simp[part,run_isAgg_of he,aggD,c3]
     refine⟨?_,?_⟩
     ·unfold Op.equal
      rw[hm]
      unfold Op.equalIn
      rw[Sem.run_bind,run_underlying_of hd,Result.andThen_ok]
      have q0: ∀x y u v w,(Op.equalIn (9997+1+1) f.type (.agg #[.int k' x,.int k' y]) (.agg #[.int k' u,.int k' v])).run P w=.ok (decide (x=u∧y=v)) w:=fun x y u v w=>(equalIn_two hf 9997 x y u v w).1
      have q1: ∀x y w,(Op.equalIn (9997+1+1) g.type (.int kg' x) (.int kg' y)).run P w=.ok (x==y) w:=fun x y w=>by
       unfold Op.equalIn;rw[Sem.run_bind,run_underlying_of hg];simp
      have q2: ∀x y w,(Op.equalIn (9997+1+1) e.type (.int ke' x) (.int ke' y)).run P w=.ok (x==y) w:=fun x y w=>by
       unfold Op.equalIn;rw[Sem.run_bind,run_underlying_of he];simp
      simp[c6,c4,c5,c7,Sem.run_bind,p0,p1,p2,q0,q1,q2,Sem.run]
      by_cases hh:h1=h2<;>by_cases hl:l1=l2<;>by_cases hff:f1=f2<;>by_cases hee:e1=e2<;>simp[hh,hl,hff,hee,Sem.run_bind,p0,p1,p2,q0,q1,q2,Sem.run]
     ·intro op x y
      have q0: ∀x y u v w,(Op.eqGuardIn (9997+1+1) f.type (.agg #[.int k' x,.int k' y]) (.agg #[.int k' u,.int k' v])).run P w=.ok false w:=fun x y u v w=>(equalIn_two hf 9997 x y u v w).2
      have q1: ∀x y w,(Op.eqGuardIn (9997+1+1) g.type (.int kg' x) (.int kg' y)).run P w=.ok false w:=fun x y w=>by
       unfold Op.eqGuardIn;rw[Sem.run_bind,run_underlying_of hg];simp
      have q2: ∀x y w,(Op.eqGuardIn (9997+1+1) e.type (.int ke' x) (.int ke' y)).run P w=.ok false w:=fun x y w=>by
       unfold Op.eqGuardIn;rw[Sem.run_bind,run_underlying_of he];simp
      have hg2:(Op.eqGuardIn Op.maxDepth t (.agg #[.int k' h1,.int k' l1,.int kg' f1,.int ke' e1]) (.agg #[.int k' h2,.int k' l2,.int kg' f2,.int ke' e2])).run P w=.ok false w:=by
       rw[hm]
       unfold Op.eqGuardIn
       rw[Sem.run_bind,run_underlying_of hd,Result.andThen_ok]
       simp[c4,c5,c7,Sem.run_bind,p0,p1,p2,q0,q1,q2,Sem.run]
      unfold eqGuard
      cases op<;>simp[Sem.run_bind,Sem.run,hg2]
      all_goals
       split<;>simp[Sem.run_bind,Sem.run,hg2]
    ·cases h
   ·cases h
  ·cases h
 ·cases h
def eq4C(P:Program)(op:BinOp)(t:TypeId)(xs ys:Array Value)(s:St):Option (NextC×St):=
 match fourInts P t with
 |some (_,_,_,k,kg,ke)=>match xs.toList,ys.toList with
  |[.int k1 h1,.int k2 l1,.int k3 f1,.int k4 e1],[.int k5 h2,.int k6 l2,.int k7 f2,.int k8 e2]=>if(k1=k∧k2=k∧k3=kg∧k4=ke)∧k5=k∧k6=k∧k7=kg∧k8=ke then match op with
   |.eql=>askR (decide (h1=h2∧l1=l2∧f1=f2∧e1=e2)) s
   |.neq=>askR (!decide (h1=h2∧l1=l2∧f1=f2∧e1=e2)) s
   |_=>none
   else none
  |_,_=>none
 |none=>none
theorem eq4C_ok(P:Program){ev:Operand→Value}{o:Oper}{op:BinOp}{t u:TypeId}{x y:Operand}{xs ys:Array Value}{s s1:St}{n:NextC}(ho:o.op=.binOp op t x y u)(hx:ev x=.agg xs)(hy:ev y=.agg ys)(h:eq4C P op t xs ys s=some (n,s1)):OpOk P ev o s s1 n:=by
 unfold eq4C at h
 split at h
 ·rename_i a b c k kg ke hk
  split at h
  ·rename_i k1 h1 k2 l1 k3 f1 k4 e1 k5 h2 k6 l2 k7 f2 k8 e2 z1 z2
   split at h
   ·rename_i hc
    obtain⟨⟨r1,r2,r3,r4⟩,r5,r6,r7,r8⟩:=hc
    subst r1 r3 r4 r7 r8
    subst r2
    subst r5
    subst r6
    have ex:xs=_:=Array.ext' z1
    have ey:ys=_:=Array.ext' z2
    have inv: ∀ρ ev',EvR ρ ev o.op ev'→ev' x=.agg xs∧ev' y=.agg ys:=fun ρ ev' he=>by
     have q1:=he x (by simp[ho,Op.operands])
     have q2:=he y (by simp[ho,Op.operands])
     rw[hx]at q1
     rw[hy]at q2
     exact⟨ground_eq 9 _ (by rw[show xs=⟨xs.toList⟩from rfl,z1];rfl) ρ _ q1,ground_eq 9 _ (by rw[show ys=⟨ys.toList⟩from rfl,z2];rfl) ρ _ q2⟩
    have exs:xs= #[.int _ h1,.int _ l1,.int _ f1,.int _ e1]:=Array.ext' z1
    have eys:ys= #[.int _ h2,.int _ l2,.int _ f2,.int _ e2]:=Array.ext' z2
    split at h
    ·refine askR_ok (Simu.still fun ρ w ev' he=>⟨.value (.bool (decide (h1=h2∧l1=l2∧f1=f2∧e1=e2))),?_,.val _ _ (.bool _)⟩) h
     obtain⟨i1,i2⟩:=inv ρ ev' he
     obtain⟨r1,r2⟩:=equal_four hk h1 l1 f1 e1 h2 l2 f2 e2 w
     rw[exs]at i1
     rw[eys]at i2
     simp only[execOp,ho,i1,i2]
     rw[Sem.run_bind,Sem.run_bind,r2,Result.andThen_ok,binOp_eql _ _ _ rfl,Sem.run_bind,r1]
     rfl
    ·refine askR_ok (Simu.still fun ρ w ev' he=>⟨.value (.bool (!decide (h1=h2∧l1=l2∧f1=f2∧e1=e2))),?_,.val _ _ (.bool _)⟩) h
     obtain⟨i1,i2⟩:=inv ρ ev' he
     obtain⟨r1,r2⟩:=equal_four hk h1 l1 f1 e1 h2 l2 f2 e2 w
     rw[exs]at i1
     rw[eys]at i2
     simp only[execOp,ho,i1,i2]
     rw[Sem.run_bind,Sem.run_bind,r2,Result.andThen_ok,binOp_neq _ _ _ rfl,Sem.run_bind,r1]
     rfl
    ·cases h
   ·cases h
  ·cases h
 ·cases h
def binAny(P:Program)(ev:Operand→Value)(o:Oper)(op:BinOp)(t:TypeId)(x y:Operand)(s:St):Option (NextC×St):=
 match askP P ev o s with
 |some r=>some r
 |none=>stillR (binOpC P op t (ev x) (ev y)) s
theorem binAny_ok(P:Program){ev:Operand→Value}{o:Oper}{op:BinOp}{t u:TypeId}{x y:Operand}{s s1:St}{n:NextC}(ho:o.op=.binOp op t x y u)(h:binAny P ev o op t x y s=some (n,s1)):OpOk P ev o s s1 n:=by
 unfold binAny at h
 split at h
 ·rename_i r hr
  injection h with h
  subst h
  exact askP_ok P hr
 ·obtain⟨v,h1,rfl,rfl⟩:=stillR_inv h;exact binOp_ok P ev _ ho h1
def opC(P:Program)(ev:Operand→Value)(o:Oper)(s:St):Option (NextC×St):=
 match o.op with
 |.move x=>some (.val (ev x),s)
 |.assign x=>some (.val (ev x),s)
 |.alloc t=>allocC P t s
 |.box t x=>boxC t (ev x) s
 |.load t x=>loadS P t (ev x) s
 |.store t x y=>storeS P t (ev x) (ev y) s
 |.fieldAddr st x f=>stillR (fieldAddrC P st (ev x) f) s
 |.indexAddr t x i=>indexAddrS P t (ev x) (ev i) s
 |.extract x i=>stillR (extractC (ev x) i) s
 |.makeSlice t x y=>makeSliceC P t (ev x) (ev y) s
 |.call c=>callAll P ev o c s
 |.slice t x lo hi mx=>match ev x with
  |.slice (some _) _ _=>sliceC P t (ev x) (lo.map ev) (hi.map ev) (mx.map ev) s
  |.pointer (some _)=>arrSliceC P t (ev x) (lo.map ev) (hi.map ev) (mx.map ev) s
  |_=>pureR P ev o s
 |.build t parts=>stillR (buildC P t (parts.map fun p=>(p.1,ev p.2))) s
 |.buildSlice t len parts=>buildSliceC P t len (parts.map fun p=>(p.1,ev p.2)) s
 |.nilCheck x=>stillR (nilCheckC (ev x)) s
 |.makeFunc fn first cap=>stillR (makeFuncC ev fn first cap) s
 |.makeInterface t x=>stillR (makeIfaceC P t (ev x)) s
 |.field t x f=>stillR (fieldC P t (ev x) f) s
 |.pick c a b=>stillR (pickC (ev c) (ev a) (ev b)) s
 |.binOp op t x y _=>match ev x,ev y with
  |.int k a,.int j b=>intC P ev o op k j a b s
  |.agg xs,.agg ys=>match s.an with
   |[]=>binAny P ev o op t x y s
   |_=>match eq2C P op t xs ys s with
    |some r=>some r
    |none=>match eq4C P op t xs ys s with
     |some r=>some r
     |none=>binAny P ev o op t x y s
  |_,_=>binAny P ev o op t x y s
 |.convert src dst x=>match ev x with
  |.slice (some _) _ _=>convC P src dst (ev x) s
  |.string _=>match strBytesC P src dst (ev x) s with
   |some r=>some r
   |none=>pureR P ev o s
  |_=>pureR P ev o s
 |_=>pureR P ev o s
theorem opC_ok(P:Program)(hP:NG P){ev:Operand→Value}{o:Oper}{s s1:St}{n:NextC}(h:opC P ev o s=some (n,s1)):OpOk P ev o s s1 n:=by
 unfold opC at h
 split at h
 ·rename_i x ho;injection h with h;injection h with h1 h2;subst h1 h2;exact move_ok P ev _ (.inl ho)
 ·rename_i x ho;injection h with h;injection h with h1 h2;subst h1 h2;exact move_ok P ev _ (.inr ho)
 ·rename_i t ho;exact alloc_ok P ev ho h
 ·rename_i t x ho;exact box_ok P ev ho h
 ·rename_i t x ho;exact loadS_ok P ev ho h
 ·rename_i t x y ho;exact storeS_ok P ev ho h
 ·rename_i st x f ho;obtain⟨v,h1,rfl,rfl⟩:=stillR_inv h;exact fieldAddr_ok P ev _ ho h1
 ·rename_i t x i ho;exact indexAddrS_ok P ev ho h
 ·rename_i x i ho;obtain⟨v,h1,rfl,rfl⟩:=stillR_inv h;exact extract_ok P ev _ ho h1
 ·rename_i t x y ho;exact makeSlice_ok P ev ho h
 ·rename_i c ho
  unfold callAll at h
  split at h
  ·split at h
   ·exact append_ok P ev ho h
   ·exact copy_ok P ev ho h
   ·split at h
    ·rename_i v hv
     injection h with h;injection h with h1 h2;subst h1 h2
     exact len_ok P ev _ ho hv
    ·exact pureR_ok P h
   ·exact pureR_ok P h
  ·split at h
   ·exact yield_ok P ev ho h
   ·split at h
    ·rename_i n' hn
     injection h with h;injection h with h1 h2;subst h1 h2
     exact call_ok P hP ev _ ho hn
    ·exact pureR_ok P h
  ·cases h
 ·rename_i t x lo hi mx ho
  split at h
  ·exact slice_ok P ev ho h
  ·exact arrSlice_ok P ev ho h
  ·exact pureR_ok P h
 ·rename_i t parts ho;obtain⟨v,h1,rfl,rfl⟩:=stillR_inv h;exact build_ok P ev _ ho h1
 ·rename_i t len parts ho;exact buildSlice_ok P ev ho h
 ·rename_i x ho;obtain⟨v,h1,rfl,rfl⟩:=stillR_inv h;exact nilCheck_ok P ev _ ho h1
 ·rename_i fn first cap ho;obtain⟨v,h1,rfl,rfl⟩:=stillR_inv h;exact makeFunc_ok P ev _ ho h1
 ·rename_i t x ho;obtain⟨v,h1,rfl,rfl⟩:=stillR_inv h;exact makeIface_ok P ev _ ho h1
 ·rename_i t x f ho;obtain⟨v,h1,rfl,rfl⟩:=stillR_inv h;exact field_ok P ev _ ho h1
 ·rename_i c a b ho;obtain⟨v,h1,rfl,rfl⟩:=stillR_inv h;exact pick_ok P ev _ ho h1
 ·rename_i op t x y u ho
  split at h
  ·rename_i k a j b hx hy
   exact intC_ok P ho hx hy h
  ·rename_i xs ys hx hy
   split at h
   ·exact binAny_ok P ho h
   ·split at h
    ·rename_i r hr
     injection h with h
     subst h
     exact eq2C_ok P ho hx hy hr
    ·split at h
     ·rename_i r hr
      injection h with h
      subst h
      exact eq4C_ok P ho hx hy hr
     ·exact binAny_ok P ho h
  ·exact binAny_ok P ho h
 ·rename_i src dst x ho
  split at h
  ·exact conv_ok P ev ho h
  ·split at h
   ·rename_i r hr
    injection h with h
    subst h
    exact strBytes_ok P ev ho hr
   ·exact pureR_ok P h
  ·exact pureR_ok P h
 ·exact pureR_ok P h
end Go.Canon
