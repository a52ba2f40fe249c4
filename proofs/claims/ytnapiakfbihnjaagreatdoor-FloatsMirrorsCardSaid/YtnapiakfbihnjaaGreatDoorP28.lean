/-
  read and Value: contracts.
-/
import Derived.Test.YtnapiakfbihnjaaGreatDoorP27
set_option linter.unusedVariables false
set_option linter.unusedSimpArgs false
namespace Go.Proofs.YtnapiakfbihnjaaGreatDoor
open Go.RowKit Go.Shelf Go.Canon
def jS(E P X:Int):Int:=if aG E P then(if 2*ai E P≤X then 6 else 0)else 2
def sD(E P X:Int):Int:=if jS E P X=0 then aK E P X else 0
def rdKind(E P X:Int):Int:=if jS E P X=0 then kindOf E P X else 0
def rZ(E P X:Int):Bool:=if jS E P X=0 then ak E P X else false
def aiJ(kind:Int)(neg:Bool)(K k e:Int):bP:=⟨some (.d K k),.tuple #[Ah kind neg K,.int .i64 e]⟩
theorem ZI{w:World}{v:Value}{kind k e:Int}{neg:Bool}(h:jA w ⟨none,.tuple #[Jf kind neg,.int .i64 e]⟩ v):jA w (aiJ kind neg 0 k e) v:=by
 have q:v=.tuple #[Jf kind neg,.int .i64 e]:=h
 subst q
 refine⟨sZ,Ob w k,fun ρ n hn=>?_⟩
 exact aJ.DV (jU.tH (l:=[_,_]) (l':=[_,_]) ⟨aJ.ou (jU.tH (l:=[_,_,_,_,_,_]) (l':=[_,_,_,_,_,_]) ⟨.int _ _,.bool _,.bool _,.tok _ 1 _ _ hn rfl rfl,.tok _ 2 _ _ hn rfl rfl,.tok _ 3 _ _ hn rfl rfl,trivial⟩),.int _ _,trivial⟩)
theorem WH(E P X:Int): ∀x,Ar.v x∈ [Ar.v (kH E P),.v (ae X)]→ground 9 x=true:=fun x hx=>by
 simp at hx;rcases hx with rfl|rfl<;>rfl
theorem aiK{E P X:Int}(h0:0≤X)(h1:X<aW):dU Tryz.prog TR 63 [.v (kH E P),.v (ae X)] (aiJ (rdKind E P X) (rZ E P X) (sD E P X) (az E P) (jS E P X)):=by
 have g:=WH E P X
 have bX:wB (ae X)=true:=dh h0 h1
 by_cases h:aG E P
 ·have hc:gq E P=0:=by unfold gq;rw[if_pos h]
  have hw:IntKind.i64.wrap (E+P)=E+P:=nC (by obtain⟨a,b,c,d,e⟩:=h;omega)
  have h2:(2:Int)^(E+P).toNat=2*ai E P:=by
   obtain⟨a,b,c,d,e⟩:=h
   unfold ai
   rw[show(E+P).toNat=(E+P-1).toNat+1 by omega,Int.pow_succ];omega
  have hs:=dV h
  have hq0:0≤X/(2*ai E P):=Int.ediv_nonneg h0 (by omega)
  have hqz:(X/(2*ai E P)=0)↔X<2*ai E P:=by
   constructor
   ·intro hz
    have:=Int.mul_ediv_add_emod X (2*ai E P)
    have:=Int.emod_lt_of_pos X (show 0<2*ai E P by omega)
    rw[hz]at*
    omega
   ·intro hl;exact Int.ediv_eq_zero_of_lt h0 hl
  have c0: ∀far,(!decide (X<2*ai E P))=far→ ∀c∈ab1 E P X far,c.1=c.2:=by
   intro far hf
   unfold ab1
   simp only[List.forall_mem_cons,ag,hw,h2,hc,bX]
   refine⟨?_,?_,trivial,trivial,trivial,trivial,trivial,by simp,trivial,trivial,trivial,by simp,by simp,by simp,trivial,fun c hc=>by cases hc⟩
   ·rw[←hf]
    congr 2
    apply propext
    rw[←hqz]
    omega
   ·rw[decide_eq_true (show 0≤E+P∧E+P≤127 by obtain⟨a,b,c,d,e⟩:=h;omega)];rfl
  by_cases hX:2*ai E P≤X
  ·have he:jS E P X=6:=by unfold jS;rw[if_pos h,if_pos hX]
   have hK:sD E P X=0:=by unfold sD;rw[if_neg (by omega)]
   have hk:rdKind E P X=0:=by unfold rdKind;rw[if_neg (by omega)]
   have hn:rZ E P X=false:=by unfold rZ;rw[if_neg (by omega)]
   rw[he,hK,hk,hn]
   exact jO (af EZ (aiN E P X) (by simp only[List.forall_mem_cons];exact⟨trivial,trivial,c0 _ (by rw[decide_eq_false (by omega)];rfl)⟩) (by simp) g rfl rfl) fun w v hr=>ZI hr
  ·have he:jS E P X=0:=by unfold jS;rw[if_pos h,if_neg hX]
   have hK:sD E P X=aK E P X:=by unfold sD;rw[if_pos he]
   have hk:rdKind E P X=kindOf E P X:=by unfold rdKind;rw[if_pos he]
   have hn:rZ E P X=ak E P X:=by unfold rZ;rw[if_pos he]
   rw[he,hK,hk,hn]
   have c1: ∀neg,ak E P X=neg→ ∀c∈ab2 E P X neg,c.1=c.2:=by
    intro neg hneg
    unfold ab2
    simp only[List.forall_mem_cons,ag]
    exact⟨trivial,trivial,by simp,by simp,trivial,trivial,hneg,by simp[h,bX];omega,c0 _ (by rw[decide_eq_true (by omega)];rfl)⟩
   cases hneg:ak E P X
   ·have hrun:=auo E P X
    rw[ag]at hrun
    exact rW EZ hrun (c1 _ hneg) (by simp) g ⟨rfl,rfl,rfl⟩
   ·have hrun:=aup E P X
    rw[ag]at hrun
    exact rW EZ hrun (c1 _ hneg) (by simp) g ⟨rfl,rfl,rfl⟩
 ·have he:jS E P X=2:=by unfold jS;rw[if_neg h]
  have hK:sD E P X=0:=by unfold sD;rw[if_neg (by omega)]
  have hk:rdKind E P X=0:=by unfold rdKind;rw[if_neg (by omega)]
  have hn:rZ E P X=false:=by unfold rZ;rw[if_neg (by omega)]
  rw[he,hK,hk,hn]
  exact jO (af EZ (aiP E P X) (by simp[gq,h]) (by simp) g rfl rfl) fun w v hr=>ZI hr
def amY(xs:List Ar):Option bP:=match xs with
 |[.v a,.v b]=>match fmt2 a with
  |some (E,P)=>some (aiJ (rdKind E P (wX b)) (rZ E P (wX b)) (sD E P (wX b)) (az E P) (jS E P (wX b)))
  |none=>none
 |_=>none
def QO(xs:List Ar):Bool:=match xs with
 |[.v _,.v b]=>wB b
 |_=>false
def am0:CF→St→Option (Value×St):=bF 63 (aZ TR QO amY)
theorem rf:aN Tryz.prog am0:=aP dH xP oh fun xs R h hp=>by
 unfold amY at h
 split at h
 ·split at h
  ·rename_i hm
   injection h with h
   subst h
   unfold QO at hp
   simp only at hp
   rw[rH hm,AU hp,ag]
   exact aiK (jW hp).1 (jW hp).2
  ·cases h
 ·cases h
end Go.Proofs.YtnapiakfbihnjaaGreatDoor
