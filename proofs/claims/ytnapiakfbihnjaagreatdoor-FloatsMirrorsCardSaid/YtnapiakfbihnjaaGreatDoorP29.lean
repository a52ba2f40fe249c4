/-
  Value: its contract.
-/
import Derived.Test.YtnapiakfbihnjaaGreatDoorP28
set_option linter.unusedVariables false
set_option linter.unusedSimpArgs false
set_option maxRecDepth 1000000
namespace Go.Proofs.YtnapiakfbihnjaaGreatDoor
open Go.RowKit Go.Shelf Go.Canon
def WI(E P X:Int)(neg e:Bool):L_:=[(jS E P (wX (ae X)) !=0,e),t_,(rZ E P (wX (ae X)),neg),(wB (ae X),T_)]
def WJ(E P X:Int)(neg a:Bool):L_:=(rdKind E P (wX (ae X)) !=2,a)::t_::WI E P X neg false
def Oc(E P X:Int)(neg b:Bool):L_:=(rdKind E P (wX (ae X)) !=1,b)::t_::WJ E P X neg true
noncomputable def xY(E P X:Int)(an:List Bool)(n:Nat):Option (Value×Option gW×List (Bool×Bool)):=dJ Tryz.prog TR am0 1000 23 [.v (kH E P),.v (ae X)] an n
theorem apl(E P X:Int):xY E P X [true,true,true] 1=some (.tuple #[.agg sZ,.int .i64 (jS E P (wX (ae X)))],some (.fact 0),(true,true)::WI E P X true true):=by kernel_rfl
theorem apm(E P X:Int):xY E P X [T_,F_,T_,T_,T_] 1=some (.tuple #[.agg sZ,.int .i64 4],some (.fact 0),(true,true)::Oc E P X true true):=by kernel_rfl
theorem apo(E P X:Int):xY E P X [T_,F_,T_,F_,T_] 16=some (.tuple #[subst 16 4 (qj (sD E P (wX (ae X)))),.int .i64 0],some (.ghost 0 [sD E P (wX (ae X)),az E P]),(true,true)::Oc E P X true false):=by kernel_rfl
theorem apq(E P X:Int):xY E P X [T_,F_,F_,T_] 16=some (.tuple #[subst 16 4 (qj (sD E P (wX (ae X)))),.int .i64 0],some (.ghost 0 [sD E P (wX (ae X)),az E P]),(true,true)::WJ E P X true false):=by kernel_rfl
theorem apr(E P X:Int):xY E P X [false,true,true] 1=some (.tuple #[.agg sZ,.int .i64 (jS E P (wX (ae X)))],some (.fact 0),(true,true)::WI E P X false true):=by kernel_rfl
theorem apt(E P X:Int):xY E P X [F_,F_,T_,T_,T_] 1=some (.tuple #[.agg sZ,.int .i64 4],some (.fact 0),(true,true)::Oc E P X false true):=by kernel_rfl
theorem apu(E P X:Int):xY E P X [F_,F_,T_,F_,T_] 16=some (.tuple #[subst 16 4 (qj (sD E P (wX (ae X)))),.int .i64 0],some (.ghost 0 [sD E P (wX (ae X)),az E P]),(true,true)::Oc E P X false false):=by kernel_rfl
theorem apw(E P X:Int):xY E P X [F_,F_,F_,T_] 16=some (.tuple #[subst 16 4 (qj (sD E P (wX (ae X)))),.int .i64 0],some (.ghost 0 [sD E P (wX (ae X)),az E P]),(true,true)::WJ E P X false false):=by kernel_rfl
def lm(E P X:Int):Int:=if jS E P X=0 then(if rdKind E P X=2∨rdKind E P X=1 then 0 else 4)else jS E P X
def vK(E P X:Int):Int:=if lm E P X=0 then sD E P X else 0
theorem E5{w:World}{v:Value}{k e:Int}(h:jA w ⟨none,.tuple #[.agg sZ,.int .i64 e]⟩ v):jA w (aa5 0 k e) v:=by
 have q:v=.tuple #[.agg sZ,.int .i64 e]:=h
 subst q
 refine⟨sZ,Ob w k,fun ρ n hn=>?_⟩
 exact aJ.DV (jU.tH (l:=[_,_]) (l':=[_,_]) ⟨aJ.ou (jU.tH (l:=[_,_,_,_]) (l':=[_,_,_,_]) ⟨.bool _,.tok _ 1 _ _ hn rfl rfl,.tok _ 2 _ _ hn rfl rfl,.tok _ 3 _ _ hn rfl rfl,trivial⟩),.int _ _,trivial⟩)
theorem afO{E P X:Int}(h0:0≤X)(h1:X<aW):dU Tryz.prog TR 23 [.v (kH E P),.v (ae X)] (aa5 (vK E P X) (az E P) (lm E P X)):=by
 have g:=WH E P X
 have bX:wB (ae X)=true:=dh h0 h1
 have c0: ∀neg e,rZ E P X=neg→(jS E P X !=0)=e→ ∀c∈WI E P X neg e,c.1=c.2:=by
  intro neg e e1 e2
  unfold WI
  simp only[List.forall_mem_cons,ag]
  exact⟨e2,trivial,e1,bX,fun c hc=>by cases hc⟩
 have c1: ∀neg a,rZ E P X=neg→jS E P X=0→(rdKind E P X !=2)=a→ ∀c∈WJ E P X neg a,c.1=c.2:=by
  intro neg a e1 e2 e3
  unfold WJ
  simp only[List.forall_mem_cons,ag]
  exact⟨e3,trivial,c0 _ _ e1 (by simp[e2])⟩
 have c2: ∀neg b,rZ E P X=neg→jS E P X=0→(rdKind E P X !=2)=true→(rdKind E P X !=1)=b→ ∀c∈Oc E P X neg b,c.1=c.2:=by
  intro neg b e1 e2 e3 e4
  unfold Oc
  simp only[List.forall_mem_cons,ag]
  exact⟨e4,trivial,c1 _ _ e1 e2 e3⟩
 cases hn:rZ E P X
 ·by_cases he:jS E P X=0
  ·by_cases hk:rdKind E P X=2
   ·have hv:lm E P X=0:=by unfold lm;rw[if_pos he,if_pos (.inl hk)]
    have hK:vK E P X=sD E P X:=by unfold vK;rw[if_pos hv]
    rw[hv,hK]
    have hrun:=apw E P X
    rw[ag]at hrun
    exact rW rf hrun (by simp only[List.forall_mem_cons];exact⟨trivial,c1 _ _ hn he (by simp[hk])⟩) (by simp) g ⟨rfl,rfl,rfl⟩
   ·by_cases hk1:rdKind E P X=1
    ·have hv:lm E P X=0:=by unfold lm;rw[if_pos he,if_pos (.inr hk1)]
     have hK:vK E P X=sD E P X:=by unfold vK;rw[if_pos hv]
     rw[hv,hK]
     have hrun:=apu E P X
     rw[ag]at hrun
     exact rW rf hrun (by simp only[List.forall_mem_cons];exact⟨trivial,c2 _ _ hn he (by simp[hk]) (by simp[hk1])⟩) (by simp) g ⟨rfl,rfl,rfl⟩
    ·have hv:lm E P X=4:=by unfold lm;rw[if_pos he,if_neg (by omega)]
     have hK:vK E P X=0:=by unfold vK;rw[if_neg (by omega)]
     rw[hv,hK]
     exact jO (af rf (apt E P X) (by simp only[List.forall_mem_cons];exact⟨trivial,c2 _ _ hn he (by simp[hk]) (by simp[hk1])⟩) (by simp) g rfl rfl) fun w v hr=>E5 hr
  ·have hv:lm E P X=jS E P X:=by unfold lm;rw[if_neg he]
   have hK:vK E P X=0:=by unfold vK;rw[if_neg (by omega)]
   rw[hv,hK]
   have hrun:=apr E P X
   rw[ag]at hrun
   exact jO (af rf hrun (by simp only[List.forall_mem_cons];exact⟨trivial,c0 _ _ hn (by simp[he])⟩) (by simp) g rfl rfl) fun w v hr=>E5 hr
 ·by_cases he:jS E P X=0
  ·by_cases hk:rdKind E P X=2
   ·have hv:lm E P X=0:=by unfold lm;rw[if_pos he,if_pos (.inl hk)]
    have hK:vK E P X=sD E P X:=by unfold vK;rw[if_pos hv]
    rw[hv,hK]
    have hrun:=apq E P X
    rw[ag]at hrun
    exact rW rf hrun (by simp only[List.forall_mem_cons];exact⟨trivial,c1 _ _ hn he (by simp[hk])⟩) (by simp) g ⟨rfl,rfl,rfl⟩
   ·by_cases hk1:rdKind E P X=1
    ·have hv:lm E P X=0:=by unfold lm;rw[if_pos he,if_pos (.inr hk1)]
     have hK:vK E P X=sD E P X:=by unfold vK;rw[if_pos hv]
     rw[hv,hK]
     have hrun:=apo E P X
     rw[ag]at hrun
     exact rW rf hrun (by simp only[List.forall_mem_cons];exact⟨trivial,c2 _ _ hn he (by simp[hk]) (by simp[hk1])⟩) (by simp) g ⟨rfl,rfl,rfl⟩
    ·have hv:lm E P X=4:=by unfold lm;rw[if_pos he,if_neg (by omega)]
     have hK:vK E P X=0:=by unfold vK;rw[if_neg (by omega)]
     rw[hv,hK]
     exact jO (af rf (apm E P X) (by simp only[List.forall_mem_cons];exact⟨trivial,c2 _ _ hn he (by simp[hk]) (by simp[hk1])⟩) (by simp) g rfl rfl) fun w v hr=>E5 hr
  ·have hv:lm E P X=jS E P X:=by unfold lm;rw[if_neg he]
   have hK:vK E P X=0:=by unfold vK;rw[if_neg (by omega)]
   rw[hv,hK]
   have hrun:=apl E P X
   rw[ag]at hrun
   exact jO (af rf hrun (by simp only[List.forall_mem_cons];exact⟨trivial,c0 _ _ hn (by simp[he])⟩) (by simp) g rfl rfl) fun w v hr=>E5 hr
def afP(xs:List Ar):Option bP:=match xs with
 |[.v a,.v b]=>match fmt2 a with
  |some (E,P)=>some (aa5 (vK E P (wX b)) (az E P) (lm E P (wX b)))
  |none=>none
 |_=>none
def aeo:CF→St→Option (Value×St):=bF 23 (aZ TR QO afP)
theorem aep:aN Tryz.prog aeo:=aP dH xP oh fun xs R h hp=>by
 unfold afP at h
 split at h
 ·split at h
  ·rename_i hm
   injection h with h
   subst h
   unfold QO at hp
   simp only at hp
   rw[rH hm,AU hp,ag]
   exact afO (jW hp).1 (jW hp).2
  ·cases h
 ·cases h
end Go.Proofs.YtnapiakfbihnjaaGreatDoor
