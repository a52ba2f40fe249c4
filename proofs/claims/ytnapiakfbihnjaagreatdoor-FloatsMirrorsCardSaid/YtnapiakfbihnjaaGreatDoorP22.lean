/-
  The step of a number, by runs with unknown numbers.
-/
import Derived.Test.YtnapiakfbihnjaaGreatDoorP21
set_option linter.unusedVariables false
set_option linter.unusedSimpArgs false
namespace Go.Proofs.YtnapiakfbihnjaaGreatDoor
open Go.RowKit Go.Shelf Go.Canon Tryz
def aao:List Value:=[.int .i64 0,.int .i64 1,.int .i64 2,.int .i64 4,.int .i64 3]
def TR:Tabs:=⟨1,[(0,aao)]⟩
theorem xP:TR.g<prog.globals.size:=of_decide_eq_true (by kernel_rfl)
theorem AQ:prog.globals.size<2^38:=of_decide_eq_true (by kernel_rfl)
theorem aiF: ∀p∈TR.ro,p.1<prog.globals.size∧p.2.all (ground 3)=true∧p.1≠TR.g:=fun p hp=>by
 rcases List.mem_cons.1 hp with rfl|hp
 ·exact⟨of_decide_eq_true (by kernel_rfl),rfl,by decide⟩
 ·cases hp
theorem oh: ∀p∈TR.ro,p.1<prog.globals.size∧p.2.all (ground 3)=true:=fun p hp=>⟨(aiF p hp).1,(aiF p hp).2.1⟩
theorem rW{call:CF→St→Option (Value×St)}(hcall:aN prog call){g:Nat}{xs:List Ar}{an:List Bool}{n:Nat}{v:Value}{o:Option gW}{cs:List (Bool×Bool)}
 (h:dJ prog TR call 1000 g xs an n=some (v,o,cs)) (hcs: ∀c∈cs,c.1=c.2) (hlen:xs.length<2^38) (hgr: ∀x,Ar.v x∈xs→ground 9 x=true) {R:bP} (hfit:Fits R n v o):dU prog TR g xs R:=
 nJ dH mX qL xP aiF AQ hcall hlen hgr h hcs hfit
theorem af{call:CF→St→Option (Value×St)}(hcall:aN prog call){g:Nat}{xs:List Ar}{an:List Bool}{v:Value}{o:Option gW}{cs:List (Bool×Bool)}
 (h:dJ prog TR call 1000 g xs an 1=some (v,o,cs)) (hcs: ∀c∈cs,c.1=c.2) (hlen:xs.length<2^38) (hgr: ∀x,Ar.v x∈xs→ground 9 x=true) {t:Value} (hv:v=t) (hg:ground 9 t=true):dU prog TR g xs ⟨none,t⟩:=
 rW hcall h hcs hlen hgr ⟨hv,hg⟩
theorem nC{x:Int}(h: -9223372036854775808≤x∧x≤9223372036854775807):IntKind.i64.wrap x=x:=IntWalk.i64_in x h
theorem MK{K k:Int}(h:inB K k): -50000≤eu K k∧eu K k≤110000:=by
 obtain⟨h1,h2,h3,h4⟩:=h
 unfold eu
 split
 ·omega
 ·rename_i h0
  have hp:0<(K.natAbs:Int):=by omega
  have h5:(K.natAbs:Int)<gz:=by omega
  have h6:aQ K.natAbs≤60000:=(NK (by omega)).2 h5
  have h7:=(eF hp).2.2
  omega
def stepOf(E P K k:Int):Int:=if K=0 then az E P else(if 1-aH E>eu K k then 1-aH E else eu K k)-P+1
def abZ:CF→St→Option (Value×St):=orElse ah2 (orElse Iz Dz)
theorem WG:aN prog abZ:=aA Y9 (aA EU yO)
set_option maxRecDepth 1000000 in
theorem aiG(E P m K k:Int):dJ prog TR abZ 1000 139 [.v (ed E P m),.n K k] [false,true] 1=
 some (.int .i64 (IntKind.i64.wrap (IntKind.i64.wrap ((if 1-aH E>eu K k then 1-aH E else eu K k)-P)+1)),some (.fact 0),[(true,true),(decide (aG E P),true),(mf K !=0,false),(decide (inB K k),true),(decide (K<0)==decide (K<0),true)]):=by kernel_rfl
set_option maxRecDepth 1000000 in
theorem afN(E P m K k:Int):dJ prog TR abZ 1000 139 [.v (ed E P m),.n K k] [true,true] 1=
 some (.int .i64 (az E P),some (.fact 0),[(decide (aG E P),true),(mf K !=0,true),(decide (inB K k),true),(decide (K<0)==decide (K<0),true)]):=by kernel_rfl
theorem JU(E P m K k:Int): ∀x,Ar.v x∈ [Ar.v (ed E P m),.n K k]→ground 9 x=true:=fun x hx=>by
 simp at hx;subst hx;rfl
theorem aiH{E P m K k:Int}(h:aG E P)(hb:inB K k):dU prog TR 139 [.v (ed E P m),.n K k] ⟨none,.int .i64 (stepOf E P K k)⟩:=by
 have hl:=MK hb
 have hbr:=dN h.1 h.2.1
 have hf:=h
 obtain⟨f1,f2,f3,f4,f5⟩:=h
 by_cases h0:K=0
 ·subst h0
  refine af WG (afN E P m 0 k) (by simp[hf,hb,mf]) (by simp) (JU E P m 0 k) ?_ rfl
  unfold stepOf;rw[if_pos rfl]
 ·refine af WG (aiG E P m K k) (by simp[hf,hb,mf,h0]) (by simp) (JU E P m K k) ?_ rfl
  unfold stepOf;rw[if_neg h0]
  rw[nC (x:=(if 1-aH E>eu K k then 1-aH E else eu K k)-P) (by split<;>omega),nC (by split<;>omega)]
def stepS(xs:List Ar):Option bP:=match xs with
 |[.v a,.n K k]=>match iw a with
  |some (E,P,_)=>some (⟨none,.int .i64 (stepOf E P K k)⟩:bP)
  |none=>none
 |_=>none
def amU(xs:List Ar):Bool:=match xs with
 |[.v a,.n K k]=>match iw a with
  |some (E,P,_)=>decide (aG E P)&&decide (inB K k)
  |none=>false
 |_=>false
def amX:CF→St→Option (Value×St):=bF 139 (aZ TR amU stepS)
theorem aiI:aN prog amX:=aP dH xP oh fun xs R h hp=>by
 unfold stepS at h
 split at h
 ·split at h
  ·rename_i hm
   injection h with h
   subst h
   unfold amU at hp
   simp only[hm,Bool.and_eq_true]at hp
   rw[jw hm]
   exact aiH (of_decide_eq_true hp.1) (of_decide_eq_true hp.2)
  ·cases h
 ·cases h
end Go.Proofs.YtnapiakfbihnjaaGreatDoor
