/-
  The step of a number, by runs with unknown numbers.
-/
import Derived.Test.YtedhbbjlbgpafaaGreatDoorP19
set_option linter.unusedVariables false
set_option linter.unusedSimpArgs false
namespace Go.Proofs.YtedhbbjlbgpafaaGreatDoor
open Go.RowKit Go.Shelf Go.Canon
def osTab:List Value:=[.int .i64 0,.int .i64 1,.int .i64 2,.int .i64 4,.int .i64 3]
def TR:Tabs:=⟨2,[(0,osTab)]⟩
theorem gTR:TR.g<Tryz.prog.globals.size:=of_decide_eq_true (by kernel_rfl)
theorem sizeP:Tryz.prog.globals.size<2^38:=of_decide_eq_true (by kernel_rfl)
theorem roTR: ∀p∈TR.ro,p.1<Tryz.prog.globals.size∧p.2.all (ground 3)=true∧p.1≠TR.g:=fun p hp=>by
 rcases List.mem_cons.1 hp with rfl|hp
 ·exact⟨of_decide_eq_true (by kernel_rfl),rfl,by decide⟩
 ·cases hp
theorem roTR2: ∀p∈TR.ro,p.1<Tryz.prog.globals.size∧p.2.all (ground 3)=true:=fun p hp=>⟨(roTR p hp).1,(roTR p hp).2.1⟩
theorem con_sym{call:CF→St→Option (Value×St)}(hcall:RunOkE Tryz.prog call){g:Nat}{xs:List Ar}{an:List Bool}{n:Nat}{v:Value}{o:Option CObj}{cs:List (Bool×Bool)}
 (h:conRun Tryz.prog TR call 1000 g xs an n=some (v,o,cs)) (hcs: ∀c∈cs,c.1=c.2) (hlen:xs.length<2^38) (hgr: ∀x,Ar.v x∈xs→ground 9 x=true) {R:Res} (hfit:Fits R n v o):Con Tryz.prog TR g xs R:=
 con_of_run numG noCountP mixedP gTR roTR sizeP hcall hlen hgr h hcs hfit
theorem con_plain{call:CF→St→Option (Value×St)}(hcall:RunOkE Tryz.prog call){g:Nat}{xs:List Ar}{an:List Bool}{v:Value}{o:Option CObj}{cs:List (Bool×Bool)}
 (h:conRun Tryz.prog TR call 1000 g xs an 2=some (v,o,cs)) (hcs: ∀c∈cs,c.1=c.2) (hlen:xs.length<2^38) (hgr: ∀x,Ar.v x∈xs→ground 9 x=true) {t:Value} (hv:v=t) (hg:ground 9 t=true):Con Tryz.prog TR g xs ⟨none,t⟩:=
 con_sym hcall h hcs hlen hgr ⟨hv,hg⟩
theorem wrapI{x:Int}(h: -9223372036854775808≤x∧x≤9223372036854775807):IntKind.i64.wrap x=x:=IntWalk.i64_in x h
theorem logI_range{K k:Int}(h:inB K k): -50000≤logI K k∧logI K k≤110000:=by
 obtain⟨h1,h2,h3,h4⟩:=h
 unfold logI
 split
 ·omega
 ·rename_i h0
  have hp:0<(K.natAbs:Int):=by omega
  have h5:(K.natAbs:Int)<sml:=by omega
  have h6:blen K.natAbs≤60000:=(blen_lt (by omega)).2 h5
  have h7:=(blen_spec hp).2.2
  omega
def stepOf(E P K k:Int):Int:=if K=0 then fineOf E P else(if 1-biasOf E>logI K k then 1-biasOf E else logI K k)-P+1
def stepC:CF→St→Option (Value×St):=orElse logO (orElse finestO lowestO)
theorem stepC_ok:RunOkE Tryz.prog stepC:=orElse_ok logO_ok (orElse_ok finestO_ok lowestO_ok)
set_option maxRecDepth 1000000 in
theorem step_run(E P m K k:Int):conRun Tryz.prog TR stepC 1000 178 [.v (machV E P m),.n K k] [false,true] 2=
 some (.int .i64 (IntKind.i64.wrap (IntKind.i64.wrap ((if 1-biasOf E>logI K k then 1-biasOf E else logI K k)-P)+1)),some (.fact 0),[(true,true),(decide (Fmt E P),true),(logE K !=0,false),(decide (inB K k),true),(decide (K<0)==decide (K<0),true)]):=by kernel_rfl
set_option maxRecDepth 1000000 in
theorem step_run0(E P m K k:Int):conRun Tryz.prog TR stepC 1000 178 [.v (machV E P m),.n K k] [true,true] 2=
 some (.int .i64 (fineOf E P),some (.fact 0),[(decide (Fmt E P),true),(logE K !=0,true),(decide (inB K k),true),(decide (K<0)==decide (K<0),true)]):=by kernel_rfl
theorem groundMN(E P m K k:Int): ∀x,Ar.v x∈ [Ar.v (machV E P m),.n K k]→ground 9 x=true:=fun x hx=>by
 simp at hx;subst hx;rfl
theorem step_con{E P m K k:Int}(h:Fmt E P)(hb:inB K k):Con Tryz.prog TR 178 [.v (machV E P m),.n K k] ⟨none,.int .i64 (stepOf E P K k)⟩:=by
 have hl:=logI_range hb
 have hbr:=bias_range h.1 h.2.1
 have hf:=h
 obtain⟨f1,f2,f3,f4,f5⟩:=h
 by_cases h0:K=0
 ·subst h0
  refine con_plain stepC_ok (step_run0 E P m 0 k) (by simp[hf,hb,logE]) (by simp) (groundMN E P m 0 k) ?_ rfl
  unfold stepOf;rw[if_pos rfl]
 ·refine con_plain stepC_ok (step_run E P m K k) (by simp[hf,hb,logE,h0]) (by simp) (groundMN E P m K k) ?_ rfl
  unfold stepOf;rw[if_neg h0]
  rw[wrapI (x:=(if 1-biasOf E>logI K k then 1-biasOf E else logI K k)-P) (by split<;>omega),wrapI (by split<;>omega)]
def stepS(xs:List Ar):Option Res:=match xs with
 |[.v a,.n K k]=>match mach3 a with
  |some (E,P,_)=>some (⟨none,.int .i64 (stepOf E P K k)⟩:Res)
  |none=>none
 |_=>none
def stepP(xs:List Ar):Bool:=match xs with
 |[.v a,.n K k]=>match mach3 a with
  |some (E,P,_)=>decide (Fmt E P)&&decide (inB K k)
  |none=>false
 |_=>false
def stepO:CF→St→Option (Value×St):=oracle 178 (conSpec TR stepP stepS)
theorem stepO_ok:RunOkE Tryz.prog stepO:=con_oracle numG gTR roTR2 fun xs R h hp=>by
 unfold stepS at h
 split at h
 ·split at h
  ·rename_i hm
   injection h with h
   subst h
   unfold stepP at hp
   simp only[hm,Bool.and_eq_true]at hp
   rw[mach3_ok hm]
   exact step_con (of_decide_eq_true hp.1) (of_decide_eq_true hp.2)
  ·cases h
 ·cases h
end Go.Proofs.YtedhbbjlbgpafaaGreatDoor
