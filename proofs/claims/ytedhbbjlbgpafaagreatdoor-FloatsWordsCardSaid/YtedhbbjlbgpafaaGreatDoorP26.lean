/-
  read and Value: contracts.
-/
import Derived.Test.YtedhbbjlbgpafaaGreatDoorP25
set_option linter.unusedVariables false
set_option linter.unusedSimpArgs false
namespace Go.Proofs.YtedhbbjlbgpafaaGreatDoor
open Go.RowKit Go.Shelf Go.Canon
def rdErr(E P X:Int):Int:=if Fmt E P then(if 2*signOf E P≤X then 6 else 0)else 2
def rdK(E P X:Int):Int:=if rdErr E P X=0 then opK E P X else 0
def rdKind(E P X:Int):Int:=if rdErr E P X=0 then kindOf E P X else 0
def rdNeg(E P X:Int):Bool:=if rdErr E P X=0 then negOf E P X else false
def opRE(kind:Int)(neg:Bool)(K k e:Int):Res:=⟨some (.d K k),.tuple #[opT kind neg K,.int .i64 e]⟩
theorem opZE_is{w:World}{v:Value}{kind k e:Int}{neg:Bool}(h:ResIs w ⟨none,.tuple #[opZ kind neg,.int .i64 e]⟩ v):ResIs w (opRE kind neg 0 k e) v:=by
 have q:v=.tuple #[opZ kind neg,.int .i64 e]:=h
 subst q
 refine⟨zeroA,is_zero w k,fun ρ n hn=>?_⟩
 exact VRel.tuple_of (LRel.arel (l:=[_,_]) (l':=[_,_]) ⟨VRel.agg_of (LRel.arel (l:=[_,_,_,_,_,_]) (l':=[_,_,_,_,_,_]) ⟨.int _ _,.bool _,.bool _,.tok _ 1 _ _ hn rfl rfl,.tok _ 2 _ _ hn rfl rfl,.tok _ 3 _ _ hn rfl rfl,trivial⟩),.int _ _,trivial⟩)
theorem groundFX(E P X:Int): ∀x,Ar.v x∈ [Ar.v (fmtV E P),.v (wordV X)]→ground 9 x=true:=fun x hx=>by
 simp at hx;rcases hx with rfl|rfl<;>rfl
theorem read_con{E P X:Int}(h0:0≤X)(h1:X<two128):Con Tryz.prog TR 65 [.v (fmtV E P),.v (wordV X)] (opRE (rdKind E P X) (rdNeg E P X) (rdK E P X) (fineOf E P) (rdErr E P X)):=by
 have g:=groundFX E P X
 have bX:wB (wordV X)=true:=wB_wordV h0 h1
 by_cases h:Fmt E P
 ·have hc:chkE E P=0:=by unfold chkE;rw[if_pos h]
  have hw:IntKind.i64.wrap (E+P)=E+P:=wrapI (by obtain⟨a,b,c,d,e⟩:=h;omega)
  have h2:(2:Int)^(E+P).toNat=2*signOf E P:=by
   obtain⟨a,b,c,d,e⟩:=h
   unfold signOf
   rw[show(E+P).toNat=(E+P-1).toNat+1 by omega,Int.pow_succ];omega
  have hs:=sign_range h
  have hq0:0≤X/(2*signOf E P):=Int.ediv_nonneg h0 (by omega)
  have hqz:(X/(2*signOf E P)=0)↔X<2*signOf E P:=by
   constructor
   ·intro hz
    have:=Int.mul_ediv_add_emod X (2*signOf E P)
    have:=Int.emod_lt_of_pos X (show 0<2*signOf E P by omega)
    rw[hz]at*
    omega
   ·intro hl;exact Int.ediv_eq_zero_of_lt h0 hl
  have c0: ∀far,(!decide (X<2*signOf E P))=far→ ∀c∈rcs0 E P X far,c.1=c.2:=by
   intro far hf
   unfold rcs0
   simp only[List.forall_mem_cons,wX_wordV,hw,h2,hc,bX]
   refine⟨?_,?_,trivial,trivial,trivial,trivial,trivial,by simp,trivial,trivial,trivial,by simp,by simp,by simp,trivial,fun c hc=>by cases hc⟩
   ·rw[←hf]
    congr 2
    apply propext
    rw[←hqz]
    omega
   ·rw[decide_eq_true (show 0≤E+P∧E+P≤127 by obtain⟨a,b,c,d,e⟩:=h;omega)];rfl
  by_cases hX:2*signOf E P≤X
  ·have he:rdErr E P X=6:=by unfold rdErr;rw[if_pos h,if_pos hX]
   have hK:rdK E P X=0:=by unfold rdK;rw[if_neg (by omega)]
   have hk:rdKind E P X=0:=by unfold rdKind;rw[if_neg (by omega)]
   have hn:rdNeg E P X=false:=by unfold rdNeg;rw[if_neg (by omega)]
   rw[he,hK,hk,hn]
   exact con_imp (con_plain readX_ok (read_far E P X) (by simp only[List.forall_mem_cons];exact⟨trivial,trivial,c0 _ (by rw[decide_eq_false (by omega)];rfl)⟩) (by simp) g rfl rfl) fun w v hr=>opZE_is hr
  ·have he:rdErr E P X=0:=by unfold rdErr;rw[if_pos h,if_neg hX]
   have hK:rdK E P X=opK E P X:=by unfold rdK;rw[if_pos he]
   have hk:rdKind E P X=kindOf E P X:=by unfold rdKind;rw[if_pos he]
   have hn:rdNeg E P X=negOf E P X:=by unfold rdNeg;rw[if_pos he]
   rw[he,hK,hk,hn]
   have c1: ∀neg,negOf E P X=neg→ ∀c∈rcs1 E P X neg,c.1=c.2:=by
    intro neg hneg
    unfold rcs1
    simp only[List.forall_mem_cons,wX_wordV]
    exact⟨trivial,trivial,by simp,by simp,trivial,trivial,hneg,by simp[h,bX];omega,c0 _ (by rw[decide_eq_true (by omega)];rfl)⟩
   cases hneg:negOf E P X
   ·have hrun:=read_f E P X
    rw[wX_wordV]at hrun
    exact con_sym readX_ok hrun (c1 _ hneg) (by simp) g ⟨rfl,rfl,rfl⟩
   ·have hrun:=read_t E P X
    rw[wX_wordV]at hrun
    exact con_sym readX_ok hrun (c1 _ hneg) (by simp) g ⟨rfl,rfl,rfl⟩
 ·have he:rdErr E P X=2:=by unfold rdErr;rw[if_neg h]
  have hK:rdK E P X=0:=by unfold rdK;rw[if_neg (by omega)]
  have hk:rdKind E P X=0:=by unfold rdKind;rw[if_neg (by omega)]
  have hn:rdNeg E P X=false:=by unfold rdNeg;rw[if_neg (by omega)]
  rw[he,hK,hk,hn]
  exact con_imp (con_plain readX_ok (read_bad E P X) (by simp[chkE,h]) (by simp) g rfl rfl) fun w v hr=>opZE_is hr
def readS(xs:List Ar):Option Res:=match xs with
 |[.v a,.v b]=>match fmt2 a with
  |some (E,P)=>some (opRE (rdKind E P (wX b)) (rdNeg E P (wX b)) (rdK E P (wX b)) (fineOf E P) (rdErr E P (wX b)))
  |none=>none
 |_=>none
def readP(xs:List Ar):Bool:=match xs with
 |[.v _,.v b]=>wB b
 |_=>false
def readO:CF→St→Option (Value×St):=oracle 65 (conSpec TR readP readS)
theorem readO_ok:RunOkE Tryz.prog readO:=con_oracle numG gTR roTR2 fun xs R h hp=>by
 unfold readS at h
 split at h
 ·split at h
  ·rename_i hm
   injection h with h
   subst h
   unfold readP at hp
   simp only at hp
   rw[fmt2_ok hm,wB_eq hp,wX_wordV]
   exact read_con (wX_range hp).1 (wX_range hp).2
  ·cases h
 ·cases h
end Go.Proofs.YtedhbbjlbgpafaaGreatDoor
