/-
  Texts that are read: the groups of a row of digits, one by one (groups and what it returns).
-/
import Derived.Test.YtedhbbjlbgpafaaGreatDoorP31
import Derived.RangeFuncNested
import Derived.RangeFuncBound
import Derived.RangeFuncCalls
import Derived.RangeFuncLeaves
import Derived.Shelf.Abstract
import Derived.Shelf.RegionOpen
import Derived.WalkKit
import Derived.OwnWalkIn
import Derived.TacticsInMore
import Derived.LoopNIn
import Derived.LoopIn
set_option linter.unusedVariables false
set_option linter.unusedSimpArgs false
set_option maxRecDepth 1000000
set_option maxHeartbeats 4000000
namespace Go.Proofs.YtedhbbjlbgpafaaGreatDoor
open Go.RowKit Go.Shelf
attribute [local go_sem] Oper.semAt_some
def strLeft(B:Nat)(W:World):Nat:=match W.cell? ⟨B,0,none⟩with
 |some (.string b)=>b.size
 |_=>0
theorem groups_iter(F:Fence)(n:Nat)(hF:F.fn 242)(hro:F.round=none)(hn:1≤n)(l B:Nat)(s:List UInt8)(hs:s.length≤1000000)(J:List UInt8→World→Prop)
 (hJ: ∀p W b,J p W→J p (W.setCell ⟨B,0,none⟩ (.string b)))
 (hY: ∀p x q W,J p W→s=p++x++q→x≠ []→x.length≤19→(p=[]∨x.length=19)→YieldAt F (n-1) Tryz.prog l #[.string ⟨x.toArray⟩] W fun e W'=>e=.returned (.bool true)∧J (p++x) W'∧W'.cell? ⟨B,0,none⟩=W.cell? ⟨B,0,none⟩∧W'.frozen? ⟨B,0,none⟩=W.frozen? ⟨B,0,none⟩)
 (W:World) (hB:W.cell? ⟨B,0,none⟩=some (.string ⟨s.toArray⟩)) (hf:W.frozen? ⟨B,0,none⟩=false) (h0:J [] W):
 CallsIn F n Tryz.prog 242 #[.func (.yield l) #[] #[],.pointer (some ⟨B,0,none⟩)] W fun e W'=>(∃v,e=.returned v)∧J s W':=by
 refine callsIn_of_wp Tryz.func242 rfl hF ?_ hro
 simp only[Tryz.ntmps242,List.size_toArray,List.length_cons,List.length_nil,Nat.reduceAdd,Nat.reduceSub,Array.replicate_succ,Array.replicate_zero,List.push_toArray,List.append_toArray,List.nil_append,List.cons_append]
 gi_wp2
 gi_loopw [] (fun wr=> ∃(p r:List UInt8),s=p++r∧wr.cell? ⟨B,0,none⟩=some (.string ⟨r.toArray⟩)∧wr.frozen? ⟨B,0,none⟩=false∧J p wr∧Hid (p=[]∨r.length%19=0)) (fun wr=>strLeft B wr)
 case atStart=>exact⟨[],s,rfl,hB,hf,h0,Lib.hid (.inl rfl)⟩
 case round=>
  obtain⟨p,r,hpr,hc,hz,hj,hw⟩:=hrel
  cases r with
  |nil=>
   gi_wp2
   go_end0
   refine⟨⟨_,rfl⟩,?_⟩
   rw[hpr,List.append_nil]
   exact hj
  |cons b r=>
   obtain⟨m,hm⟩: ∃m,(b::r).length=m+1:=⟨r.length,rfl⟩
   have hmb:m<1000000:=by rw[hpr,List.length_append]at hs;omega
   obtain⟨j,hjm⟩: ∃j,m%19=j:=⟨_,rfl⟩
   have hj18:j≤18:=by omega
   have hjm2:j≤m:=by omega
   obtain⟨x,q,hx,hxl⟩: ∃x q,b::r=x++q∧x.length=j+1:=
    ⟨(b::r).take (j+1),(b::r).drop (j+1),(List.take_append_drop _ _).symm,by rw[List.length_take,hm];omega⟩
   have hx0:x≠ []:=fun h=>by rw[h]at hxl;cases hxl
   have hmod:((m:Nat):Int).tmod 19=((j:Nat):Int):=by rw[←hjm];rfl
   have e1:(⟨(b::r).toArray⟩:ByteArray).extract 0 (j+1)=⟨x.toArray⟩:=by rw[hx];exact ba_ext x q _ hxl.symm
   have e2:(⟨(b::r).toArray⟩:ByteArray).extract (j+1) (m+1)=⟨q.toArray⟩:=by rw[hx];exact ba_rest x q _ _ hxl.symm (by rw[←hx,hm])
   have hSz:(⟨(b::r).toArray⟩:ByteArray).size=m+1:=by rw[←hm];simp[ByteArray.size]
   have hne:(⟨(b::r).toArray⟩:ByteArray).toList.isEmpty=false:=by rw[Lib.toList_data];rfl
   have HY:=Lib.hid (hY p x q wr hj (by rw[hpr,hx,List.append_assoc]) hx0 (by omega) (hw.out.imp id (by omega)))
   have HPR:=Lib.hid (And.intro hpr (And.intro hx hxl))
   have HW:=Lib.hid (show q.length%19=0 by have:=congrArg List.length hx;rw[List.length_append,hm]at this;omega)
   have HQ:=Lib.hid (show(⟨q.toArray⟩:ByteArray).size<m+1 by have:=congrArg List.length hx;rw[List.length_append,hm]at this;show q.toArray.size<m+1;simp;omega)
   clear hpr hx hxl hx0 hjm hm hY hw
   generalize hS:(⟨(b::r).toArray⟩:ByteArray)=S at*
   generalize hX:(⟨x.toArray⟩:ByteArray)=X at*
   have HS:=Lib.hid (And.intro hS hX)
   clear hS hX hs
   obtain⟨fn,tmps,assign,body,hy,hR⟩:=HY.out
   have HR:=Lib.hid hR
   clear hR HY
   gi_wp2
   refine HR.out.mono ?_
   rintro e W1 ⟨rfl,hj1,hc1,hz1⟩
   rw[hc]at hc1
   rw[hz]at hz1
   gi_wp2
   go_roundw
   case rel=>exact⟨p++x,q,by rw[HPR.out.1,HPR.out.2.1,List.append_assoc],World.cell?_setCell_same' _ _ _ (by rw[hc1];rfl),by rw[World.frozen?_setCell];exact hz1,hJ _ _ _ hj1,Lib.hid (.inr HW.out)⟩
   case measure=>
    have hc2:=World.cell?_setCell_same' W1 ⟨B,0,none⟩ (.string ⟨q.toArray⟩) (by rw[hc1];rfl)
    unfold strLeft
    rw[hc2,hc]
    show(⟨q.toArray⟩:ByteArray).size<S.size
    rw[hSz]
    exact HQ.out
theorem groups_any(w:World)(s:ByteArray):Calls Tryz.prog 207 #[.string s] w fun e w'=>e=.returned (.func (.func 242) #[] #[.pointer (some ⟨w.heap.size,0,none⟩)])∧w'=w.alloc (.cells #[.string s] 9):=by
 go_enter Tryz.func207,Tryz.ntmps207
 go_wp2
 go_ret
 exact⟨rfl,rfl⟩
theorem cell_at{W:World}{B:Nat}{v:Value}{t:TypeId}(h:W.heap[B]?=some (.cells #[v] t (0,0))):W.cell? ⟨B,0,none⟩=some v∧W.frozen? ⟨B,0,none⟩=false:=by
 constructor<;>simp[World.cell?,World.frozen?,h]
theorem cell_new(W:World)(v:Value)(t:TypeId):(W.alloc (.cells #[v] t)).cell? ⟨W.heap.size,0,none⟩=some v∧(W.alloc (.cells #[v] t)).frozen? ⟨W.heap.size,0,none⟩=false:=
 cell_at (World.alloc_heap_new W _)
theorem cell_put{W:World}{l B:Nat}(o:Obj)(h:B≠l):(W.putObj l o).cell? ⟨B,0,none⟩=W.cell? ⟨B,0,none⟩∧(W.putObj l o).frozen? ⟨B,0,none⟩=W.frozen? ⟨B,0,none⟩:=by
 have e:(W.putObj l o).heap[B]?=W.heap[B]?:=World.putObj_heap_other h
 constructor<;>simp only[World.cell?,World.frozen?,e]
theorem put_set{W:World}{l B:Nat}(v:Value)(h:B≠l){o:Obj}(hl:W.heap[l]?=some o):(W.setCell ⟨B,0,none⟩ v).heap[l]?=some o:=by
 unfold World.setCell
 rw[←hl]
 simp[Array.getElem?_modify,h]
theorem range_groups{F:Fence}{n:Nat}{g:Operand}{ps:Array Tmp}{assign body:Code}{Q:Exit→Act→World→Prop}{a:Act}{w:World}(hro:F.round=none)(h2:2≤n){B:Nat}(hB:B<w.heap.size)
 (hg:a.eval g=.func (.func 242) #[] #[.pointer (some ⟨B,0,none⟩)]) (hF:F.fn 242) (hps:ps.size=1)
 (s:List UInt8) (hs:s.length≤1000000) (hc:w.cell? ⟨B,0,none⟩=some (.string ⟨s.toArray⟩)) (hz:w.frozen? ⟨B,0,none⟩=false)
 (I:List UInt8→World→Prop) (hI:OwnFrom w.heap.size I) (hIs: ∀p W v,I p W→I p (W.setCell ⟨B,0,none⟩ v)) (h0:I [] w) (a1:List UInt8→Act)
 (hassign: ∀(l:Nat) (x:List UInt8) (W:World) (K:Act→World→Prop),K (a1 x) W→assign.wpIn (F.inRound l) (n-1-1) Tryz.prog (Exit.then K (fun _ _ _=>False)) {tmps:=(ps.zip #[Value.string ⟨x.toArray⟩]).foldl (fun t (p,v)=>t.setIfInBounds p v) a.tmps,defers:=[]} W)
 (hbody: ∀(l:Nat) (p x q:List UInt8) (W:World),I p W→s=p++x++q→x≠ []→x.length≤19→(p=[]∨x.length=19)→(∃b,W.cell? ⟨B,0,none⟩=some (.string b))→body.wpIn (F.inRound l) (n-1-1) Tryz.prog (Exit.then (fun _ W'=>KeepsOthers W W'∧I (p++x) W'∧W'.cell? ⟨B,0,none⟩=W.cell? ⟨B,0,none⟩∧W'.frozen? ⟨B,0,none⟩=W.frozen? ⟨B,0,none⟩) (fun _ _ _=>False)) (a1 x) W)
 (hdone: ∀(D:Nat) (W:World),w.heap.size≤D→I s W→W.heap[D]?=some (.deferred (some []))→Q .normal {a with defers:={target:=.collected D,args:= #[]}::a.defers} W):
 (Code.rangeFunc g ps assign body).wpIn F n Tryz.prog Q a w:=by
 refine wpIn_rangeFunc ?_
 intro fn hfn
 rw[hro]
 obtain⟨R,hR⟩: ∃R:LoopState→Option Code→Loop,R=fun st pe=>{state:=st,pending:=pe,fn,tmps:=a.tmps,params:=ps,assign,body,defers:=w.heap.size}:=⟨_,rfl⟩
 obtain⟨V,hV⟩: ∃V,(w.alloc (.deferred (some []))).alloc (.loop (R .ready none))=V:=⟨_,rfl⟩
 have l1:V.heap[w.heap.size+1]?=some (.loop (R .ready none)):=by
  rw[←hV];have:=World.alloc_heap_new (w.alloc (.deferred (some []))) (.loop (R .ready none));rwa [World.size_alloc]at this
 have k1:V.heap[w.heap.size]?=some (.deferred (some [])):=by
  rw[←hV];exact(Below.heap_alloc _ _ _ (by simp)).trans (World.alloc_heap_new w _)
 have i1:I [] V:=by rw[←hV];exact hI.alloc _ (hI.alloc _ h0)
 have b1:Below w.heap.size w V:=by
  rw[←hV];exact((Below.refl _ w).alloc (Nat.le_refl _) _).alloc (by simp) _
 refine⟨w.heap.size+1,[{target:=.collected w.heap.size,args:= #[]}],V,{target:=.fn (.func 242) #[.pointer (some ⟨B,0,none⟩)],args:= #[.func (.yield (w.heap.size+1)) #[] #[]]},V,242,
  #[.func (.yield (w.heap.size+1)) #[] #[]]++ #[.pointer (some ⟨B,0,none⟩)],V,?_,?_,?_,?_,fun _=>by omega,?_⟩
 ·rw[←hV,hR];exact run_enterLoop_outer _ _ _ _ _
 ·simp only[resolve,hg]
  simp[go_sem]
 ·intro f' hf';simp[Target.leads]at hf';subst hf';exact hF
 ·simp[invoke,go_sem,enters_of Tryz.func242 (by kernel_rfl) rfl]
 ·refine(groups_iter F (n-1) hF hro (by omega) (w.heap.size+1) B s hs
   (fun p W=>I p W∧W.heap[w.heap.size+1]?=some (.loop (R .ready none))∧W.heap[w.heap.size]?=some (.deferred (some []))∧ ∃b,W.cell? ⟨B,0,none⟩=some (.string b))
   ?_ ?_ V ((b1.cell (p:=⟨B,0,none⟩) hB).trans hc) ((b1.frozen (p:=⟨B,0,none⟩) hB).trans hz) ⟨i1,l1,k1,_,(b1.cell (p:=⟨B,0,none⟩) hB).trans hc⟩).mono ?_
  ·rintro p W b ⟨h1,h2,h3,b0,h4⟩
   exact⟨hIs _ _ _ h1,put_set _ (by omega) h2,put_set _ (by omega) h3,b,World.cell?_setCell_same' W ⟨B,0,none⟩ (.string b) (by rw[h4];rfl)⟩
  ·rintro p x q W ⟨hi,hl,hk,hb⟩ hs' hx0 hx19 hx1
   have hlt:w.heap.size+1<W.heap.size:=(Array.getElem?_eq_some_iff.1 hl).1
   have hy:=run_yield (P:=Tryz.prog) (args:= #[Value.string ⟨x.toArray⟩]) hl (by rw[hR];exact hps.symm)
   rw[hR]at hy
   refine⟨fn,_,assign,body,hy,roundIn_of_wpIn hfn (hassign _ x W _ ⟨_,run_beginRound hl (by rw[hR]),?_⟩)⟩
   have l2:(W.putObj (w.heap.size+1) (.loop {R .ready none with state:=.busy})).heap[w.heap.size+1]?=some (.loop {R .ready none with state:=.busy}):=World.putObj_heap_same hlt
   have k2:(W.putObj (w.heap.size+1) (.loop {R .ready none with state:=.busy})).heap[w.heap.size]?=some (.deferred (some [])):=(World.putObj_heap_other (by omega)).trans hk
   have c2:=cell_put (W:=W) (l:=w.heap.size+1) (B:=B) (.loop {R .ready none with state:=.busy}) (by omega)
   refine wpIn_mono (hbody _ p x q _ (hI.putObj _ hi (by omega) hl rfl) hs' hx0 hx19 hx1 (by rw[c2.1];exact hb)) ?_
   rintro e a3 W3 hp
   cases e with
   |normal=>
    obtain⟨hk3,hi3,hc3,hz3⟩:=hp
    have l3:=hk3.same _ _ l2 rfl
    have hend:(Instr.endRound (w.heap.size+1) none).run Tryz.prog W3=.ok (.bool true) (W3.putObj (w.heap.size+1) (.loop (R .ready none))):=by
     have:=run_endRound (P:=Tryz.prog) none l3
     rw[hR]at this⊢
     exact this
    have l4:(W3.putObj (w.heap.size+1) (.loop (R .ready none))).heap[w.heap.size+1]?=some (.loop (R .ready none)):=World.putObj_heap_same (Array.getElem?_eq_some_iff.1 l3).1
    have c3:=cell_put (W:=W3) (l:=w.heap.size+1) (B:=B) (.loop (R .ready none)) (by omega)
    have e1:=c3.1.trans (hc3.trans c2.1)
    obtain⟨b,hb⟩:=hb
    exact⟨_,_,hend,rfl,⟨hI.putObj _ hi3 (by omega) l3 rfl,l4,(World.putObj_heap_other (by omega)).trans (hk3.same _ _ k2 rfl),b,e1.trans hb⟩,e1,c3.2.trans (hz3.trans c2.2)⟩
   |ret=>exact hp.elim
   |exit id=>exact hp.elim
   |goto t=>exact hp.elim
   |panic ch=>exact hp.elim
   |outgrown=>exact hp.elim
  ·rintro e W2 ⟨⟨v,rfl⟩,hi,hl,hk,_⟩
   exact⟨none,_,by have:=run_endLoop (P:=Tryz.prog) hl (by rw[hR];simp);rw[hR]at this;exact this,hdone _ _ (Nat.le_refl _) (hI.putObj _ hi (by omega) hl rfl) ((World.putObj_heap_other (by omega)).trans hk)⟩
theorem Nt.of_blocks{w w':World}{v:Value}{n:Int}(h:Nt w v n)(he: ∀(b:Nat) c f,w.heap[b]?=some (.cells c 24 f)→w'.heap[b]?=w.heap[b]?):Nt w' v n:=by
 rcases h with h|⟨b,off,cap,zs,e,h⟩
 ·exact .inl h
 ·obtain⟨c,f,hb⟩:=h.ty
  have e1:=he b c f hb
  have hr:Row w' b off zs:=fun i hi=>by
   have:=h.row i hi
   unfold World.cell? at this⊢
   simp only[e1]at this⊢
   exact this
  exact .inr ⟨b,off,cap,zs,e,{h with row:=hr,lt:=(Array.getElem?_eq_some_iff.1 (e1.trans hb)).1,ty:=⟨c,f,e1.trans hb⟩}⟩
theorem Nt.grown{w w':World}{v:Value}{n:Int}{row:Option Nat}(h:Nt w v n)(hg:w.grownBy w' row)(hr: ∀r,row=some r→ ∀c f,w.heap[r]?≠some (.cells c 24 f)):Nt w' v n:=
 h.of_blocks fun b c f hb=>hg.block b (Array.getElem?_eq_some_iff.1 hb).1 fun e=>hr b e.symm c f hb
theorem keeps_below{w w':World}(h:Below w.heap.size w w'):KeepsOthers w w':=⟨h.size,fun k _ hk _=>(h.block k (Array.getElem?_eq_some_iff.1 hk).1).trans hk⟩
theorem scale_nil(w:World)(f m:Int)(m0:0≤m)(m1:m<18446744073709551616):
 Calls Tryz.prog 209 #[.slice none 0 0,.int .u64 f,.int .u64 m] w (NewNt w m):=by
 obtain⟨i0,hi,hz0,hz1,hz2⟩:=info_parts infoU
 go_enter Tryz.func209,Tryz.ntmps209
 go_wp2_with (at_make;refine wpList_make_full w rfl (.tmp 15) (.tmp 15) 49 rfl w.heap.size 24 i0 (.int .u64 0) 1 Tryz.underlying49 hi hz0 hz1 .i64 .i64 _ _ 1 rfl rfl (by omega) (by omega) (by rw[hz2];omega) (by unfold maxLen;omega) (Nat.le_refl _) ?_;intro w1 hown hgrow;have hblk:=Lib.hid (blk_made hown);have hbel:=Lib.hid (below_made hgrow);clear hown hgrow hi hz0 hz1 hz2)
 generalize hg:w.heap.size=g at hblk hbel
 have HG:=Lib.hid hg
 clear hg
 go_loopw [2,19] (fun u v wr=>u=.int .u64 m∧v=.int .i64 0∧Hid (Below g w wr∧Blk wr g [0])) (fun _ _ _=>0)
 case atStart=>exact⟨rfl,rfl,Lib.hid ⟨hbel.out,hblk.out⟩⟩
 case round=>
  obtain⟨rfl,rfl,hr⟩:=hrel
  obtain⟨hbw,hL⟩:=hr.out
  have cO:=hL.cell 0 (by simp)
  have fO:=hL.frozen 0
  have HBw:=Lib.hid hbw
  have hBs:=hL.set 0 m
  have hcut2:=cut_any g 0 1 [m] _ (by simp) (by simp) hBs.row
  have HC:=Lib.hid hcut2
  have HBs:=Lib.hid hBs
  clear hr hL hbw hcut2 hBs
  go_wp2_with fail
  refine HC.out.mono ?_
  rintro e w' ⟨rfl,m',hm1,hm2,hm3,rfl⟩
  go_wp2_with fail
  go_ret
  refine⟨_,rfl,?_,below_set (by rw[HG.out];exact HBw.out) (by rw[HG.out];exact Nat.le_refl _) _ _⟩
  have hv:nv [m]=m:=by simp[nv]
  have:=nt_cut (cap:=1) HBs.out.row HBs.out.lt HBs.out.ty (show Wd [m]from Wd_cons.2 ⟨⟨m0,m1⟩,Wd_nil⟩) (by simp) m' hm1 hm2 hm3
  rw[←hv]at this⊢
  simpa [nv]using this
theorem dec_lt{l:List UInt8}(h:l.all isDg=true){k:Nat}(hl:l.length≤k):((decV l:Nat):Int)<2^(4*k):=by
 have h1:=decV_lt h
 have h2:10^l.length≤10^k:=Nat.pow_le_pow_right (by omega) hl
 have h3:10^k≤16^k:=Nat.pow_le_pow_left (by omega) _
 have h4:16^k=2^(4*k):=by rw[Nat.pow_mul]
 have h5:decV l<2^(4*k):=by omega
 have h6:(((2^(4*k):Nat)):Int)=2^(4*k):=by simp
 rw[←h6]
 exact Int.ofNat_lt.2 h5
theorem dec_big{l:List UInt8}(h:l.all isDg=true)(hl:l.length≤2000):((decV l:Nat):Int)<big:=by
 have h1:=dec_lt h hl
 have h2:(2:Int)^(4*2000)≤big:=by
  have e:big=2^(64*1000):=by
   unfold big
   rw[show pw=2^64 from rfl,←Int.pow_mul]
  rw[e]
  obtain⟨d,hd⟩: ∃d,64*1000=4*2000+d:=⟨56000,rfl⟩
  rw[hd,Int.pow_add]
  have a:(0:Int)<2^(4*2000):=Int.pow_pos (by omega)
  have b:(0:Int)<2^d:=Int.pow_pos (by omega)
  generalize (2:Int)^(4*2000)=x at*
  have:=Int.mul_le_mul_of_nonneg_left (show(1:Int)≤2^d by omega) (Int.le_of_lt a)
  omega
 exact Int.lt_of_lt_of_le h1 h2
theorem fromDigits_any(w:World)(s:List UInt8)(hd:s.all isDg=true)(hs:s.length≤2000):Calls Tryz.prog 136 #[.string ⟨s.toArray⟩] w fun e w'=> ∃v,e=.returned v∧Nt w' v (decV s:Nat)∧Below w.heap.size w w':=by
 refine(callsIn_wide (n:=4)).1 ?_
 refine callsIn_of_wp_marks Tryz.func136 rfl trivial ?_ rfl
 simp only[Tryz.ntmps136,List.size_toArray,List.length_cons,List.length_nil,Nat.reduceAdd,Nat.reduceSub,Array.replicate_succ,Array.replicate_zero,List.push_toArray,List.append_toArray,List.nil_append,List.cons_append]
 have HG:=Lib.hid (fun w s=>(callsIn_wide (n:=3)).2 (groups_any w s))
 gi_wp2_with (refine⟨trivial,?_⟩;gi_at_call 207;refine(HG.out _ _).mono ?_;rintro e w' ⟨rfl,rfl⟩)
 have hc1:=cell_new w (.slice none 0 0) 49
 have hc2:=cell_new (w.alloc (.cells #[.slice none 0 0] 49)) (.string ⟨s.toArray⟩) 9
 rw[World.size_alloc]at hc2
 have hne: ¬(49:TypeId)=24∧ ¬(9:TypeId)=24:=by decide
 obtain⟨I,hIdef⟩: ∃I:List UInt8→World→Prop,I=fun p W=> ∃v sv,Boxed W w.heap.size 49 v∧Boxed W (w.heap.size+1) 9 sv∧Nt W v (decV p:Nat)∧Below w.heap.size w W:=⟨_,rfl⟩
 have hI:OwnFrom ((w.alloc (.cells #[.slice none 0 0] 49)).alloc (.cells #[.string ⟨s.toArray⟩] 9)).heap.size I:=by
  rw[hIdef]
  rintro p W W' row ⟨v,sv,hv,hsv,hn,hb⟩ hg hr
  refine⟨v,sv,hv.kept hg (fun e=>?_),hsv.kept hg (fun e=>?_),hn.grown hg (fun r e c f h=>?_),hb.grown hg hb.size (fun k e=>?_)⟩
  ·have:=(hr _ e.symm).1;simp at this;omega
  ·have:=(hr _ e.symm).1;rw[World.size_alloc,World.size_alloc]at this;omega
  ·obtain⟨_,o,ho,hc⟩:=hr r e
   rw[h]at ho;cases ho;cases hc
  ·have:=(hr k e).1;simp at this;omega
 have hset: ∀p W b,I p W→I p (W.setCell ⟨w.heap.size+1,0,none⟩ b):=by
  rw[hIdef]
  rintro p W u ⟨v,sv,hv,hsv,hn,hb⟩
  exact⟨v,u,hv.other (by omega) u,hsv.set u,hn.grown (grownBy_setCell' W _ u) (fun r e c f h=>by cases e;rw[show W.heap[w.heap.size+1]?=_ from hsv]at h;injection h with h;injection h with h1 h2;exact hne.2 h2),hb.setCell (p:=⟨w.heap.size+1,0,none⟩) (by simp) u⟩
 refine range_groups rfl (by omega) (B:=w.heap.size+1) (by simp) rfl trivial rfl s (by omega) hc2.1 hc2.2 I hI hset ?start
  (fun x=>{tmps:= #[.string ⟨s.toArray⟩,undef,.slice none 0 0,.pointer (some ⟨w.heap.size,0,none⟩),.string ⟨x.toArray⟩,undef,undef,.string ⟨s.toArray⟩,.func (.func 242) #[] #[.pointer (some ⟨w.heap.size+1,0,none⟩)],.string ⟨x.toArray⟩,undef,undef,undef,undef,undef,undef,undef,undef,undef],defers:=[]}) ?assign ?body ?done
 case start=>
  rw[hIdef]
  exact⟨_,_,(Boxed.new w _ _).alloc _,by have:=Boxed.new (w.alloc (.cells #[.slice none 0 0] 49)) 9 (.string ⟨s.toArray⟩);rwa [World.size_alloc]at this,.zero _,((Below.refl _ w).alloc (Nat.le_refl _) _).alloc (by simp) _⟩
 case assign=>
  intro l x W K hK
  gi_wp2
  exact hK
 case body=>
  intro l p x q W hi hs' hx0 hx19 hx1 hbx
  rw[hIdef]at hi
  obtain⟨v,sv,hv,hsv,hn,hb⟩:=hi
  have hxd:x.all isDg=true:=by
   rw[hs',List.all_append,List.all_append,Bool.and_eq_true,Bool.and_eq_true]at hd
   exact hd.1.2
  have hlen:p.length≤2000:=by rw[hs',List.length_append,List.length_append]at hs;omega
  have hpd:p.all isDg=true:=by
   rw[hs',List.all_append,List.all_append,Bool.and_eq_true,Bool.and_eq_true]at hd
   exact hd.1.1
  have hP:=parseUint_any W x hx0 hxd hx19
  have hu:(decV x:Nat)<18446744073709551616:=by
   have h1:=decV_lt hxd
   have h2:10^x.length≤10^19:=Nat.pow_le_pow_right (by omega) hx19
   omega
  have hval:((decV (p++x):Nat):Int)=(decV p:Nat)*10000000000000000000+(decV x:Nat):=by
   rw[decV_append]
   rcases hx1 with rfl|h
   ·simp[decV]
   ·rw[h,Int.natCast_add,Int.natCast_mul];rfl
  have hS: ∀W1,Below W.heap.size W W1→Calls Tryz.prog 209 #[v,.int .u64 10000000000000000000,.int .u64 (decV x:Nat)] W1 (NewNt W1 (decV (p++x):Nat)):=by
   intro W1 hb1
   rw[hval]
   rcases hn.below hb1 with⟨rfl,h0⟩|⟨b,off,cap,zs,rfl,hns⟩
   ·rw[h0,Int.zero_mul,Int.zero_add]
    exact scale_nil W1 _ _ (by omega) (by omega)
   ·exact scale_any W1 b off cap zs _ _ _ hns (dec_big hpd hlen) (by omega) (by omega) (by omega) (by omega)
  have HP:=Lib.hid hP
  have HS:=Lib.hid hS
  generalize ((decV x:Nat):Int)=u at*
  have HH:=Lib.hid (And.intro hv (And.intro hsv hb))
  have HI:=Lib.hid hIdef
  clear hP hS hval hu hxd hpd hd hs hs' hI hset hIdef hx1 hc1 hc2 hn
  gi_wp2
  refine⟨trivial,(CallsIn.inRound l (callsIn_wide.2 HP.out)).mono ?_⟩
  rintro e W1 ⟨rfl,hb1⟩
  have hx1:Boxed W1 w.heap.size 49 v:=(hb1.block _ HH.out.1.lt).trans HH.out.1
  have hvc:=hx1.cell
  have hvf:=hx1.frozen
  have HX1:=Lib.hid hx1
  have HB1:=Lib.hid hb1
  clear hx1 hb1
  gi_wp2
  refine⟨trivial,(CallsIn.inRound l (callsIn_wide.2 (HS.out _ HB1.out))).mono ?_⟩
  rintro e W2 ⟨v2,rfl,hn2,hb2⟩
  obtain⟨bo,lo,co,rfl⟩: ∃a b c,v2=.slice a b c:=by
   rcases hn2 with⟨rfl,_⟩|⟨b,off,cap,zs,rfl,_⟩<;>exact⟨_,_,_,rfl⟩
  have hx2:Boxed W2 w.heap.size 49 v:=(hb2.block _ HX1.out.lt).trans HX1.out
  have hvc2:=hx2.cell
  have hvf2:=hx2.frozen
  have HX2:=Lib.hid hx2
  have HN2:=Lib.hid hn2
  have HB2:Hid (Below W.heap.size W W2):=Lib.hid (HB1.out.trans (hb2.mono HB1.out.size))
  clear hx2 hn2 hb2
  gi_wp2
  rw[HI.out]
  have hs2:Boxed W2 (w.heap.size+1) 9 sv:=(HB2.out.block _ HH.out.2.1.lt).trans HH.out.2.1
  have hs3:=hs2.other (B':=w.heap.size) (by omega) (.slice bo lo co)
  exact⟨(keeps_below HB2.out).trans (KeepsOthers.setCell _ _ _),⟨_,sv,HX2.out.set _,hs3,HN2.out.grown (grownBy_setCell' W2 _ _) (fun r e c f h=>by cases e;rw[show W2.heap[w.heap.size]?=_ from HX2.out]at h;injection h with h;injection h with h1 h2;exact hne.1 h2),(HH.out.2.2.trans (HB2.out.mono HH.out.2.2.size)).setCell (p:=⟨w.heap.size,0,none⟩) (Nat.le_refl _) _⟩,hs3.cell.trans HH.out.2.1.cell.symm,hs3.frozen.trans HH.out.2.1.frozen.symm⟩
 case done=>
  intro D W hD hi hK
  rw[hIdef]at hi
  obtain⟨v,sv,hv,hsv,hn,hb⟩:=hi
  have hcv:=hv.cell
  gi_wp2
  refine⟨by simp,.inl ⟨_,_,rfl,run_takeDeferred hK,?_⟩⟩
  rw[World.size_alloc,World.size_alloc]at hD
  exact⟨_,results_tmp rfl _ _ _,_,rfl,hn.grown (grownBy_putObj' W D _) (fun r e c f h=>by cases e;rw[hK]at h;cases h),hb.grown (grownBy_putObj' W D _) hb.size (fun k e=>by cases e;omega)⟩
end Go.Proofs.YtedhbbjlbgpafaaGreatDoor
