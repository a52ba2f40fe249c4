/-
  Value: its contract.
-/
import Derived.Test.YtedhbbjlbgpafaaGreatDoorP26
set_option linter.unusedVariables false
set_option linter.unusedSimpArgs false
set_option maxRecDepth 1000000
namespace Go.Proofs.YtedhbbjlbgpafaaGreatDoor
open Go.RowKit Go.Shelf Go.Canon
def vcs0(E P X:Int)(neg e:Bool):List (Bool×Bool):=[(rdErr E P (wX (wordV X)) !=0,e),(true,true),(rdNeg E P (wX (wordV X)),neg),(wB (wordV X),true)]
def vcs1(E P X:Int)(neg a:Bool):List (Bool×Bool):=(rdKind E P (wX (wordV X)) !=2,a)::(true,true)::vcs0 E P X neg false
def vcs2(E P X:Int)(neg b:Bool):List (Bool×Bool):=(rdKind E P (wX (wordV X)) !=1,b)::(true,true)::vcs1 E P X neg true
noncomputable def valRun(E P X:Int)(an:List Bool)(n:Nat):Option (Value×Option CObj×List (Bool×Bool)):=conRun Tryz.prog TR readO 1000 32 [.v (fmtV E P),.v (wordV X)] an n
theorem val_t_e(E P X:Int):valRun E P X [true,true,true] 2=some (.tuple #[.agg zeroA,.int .i64 (rdErr E P (wX (wordV X)))],some (.fact 0),(true,true)::vcs0 E P X true true):=by kernel_rfl
theorem val_t_n(E P X:Int):valRun E P X [true,false,true,true,true] 2=some (.tuple #[.agg zeroA,.int .i64 4],some (.fact 0),(true,true)::vcs2 E P X true true):=by kernel_rfl
theorem val_t_z(E P X:Int):valRun E P X [true,false,true,false,true] 16=some (.tuple #[subst 16 4 (numT (rdK E P (wX (wordV X)))),.int .i64 0],some (.ghost 0 [rdK E P (wX (wordV X)),fineOf E P]),(true,true)::vcs2 E P X true false):=by kernel_rfl
theorem val_t_f(E P X:Int):valRun E P X [true,false,false,true] 16=some (.tuple #[subst 16 4 (numT (rdK E P (wX (wordV X)))),.int .i64 0],some (.ghost 0 [rdK E P (wX (wordV X)),fineOf E P]),(true,true)::vcs1 E P X true false):=by kernel_rfl
theorem val_f_e(E P X:Int):valRun E P X [false,true,true] 2=some (.tuple #[.agg zeroA,.int .i64 (rdErr E P (wX (wordV X)))],some (.fact 0),(true,true)::vcs0 E P X false true):=by kernel_rfl
theorem val_f_n(E P X:Int):valRun E P X [false,false,true,true,true] 2=some (.tuple #[.agg zeroA,.int .i64 4],some (.fact 0),(true,true)::vcs2 E P X false true):=by kernel_rfl
theorem val_f_z(E P X:Int):valRun E P X [false,false,true,false,true] 16=some (.tuple #[subst 16 4 (numT (rdK E P (wX (wordV X)))),.int .i64 0],some (.ghost 0 [rdK E P (wX (wordV X)),fineOf E P]),(true,true)::vcs2 E P X false false):=by kernel_rfl
theorem val_f_f(E P X:Int):valRun E P X [false,false,false,true] 16=some (.tuple #[subst 16 4 (numT (rdK E P (wX (wordV X)))),.int .i64 0],some (.ghost 0 [rdK E P (wX (wordV X)),fineOf E P]),(true,true)::vcs1 E P X false false):=by kernel_rfl
def vErr(E P X:Int):Int:=if rdErr E P X=0 then(if rdKind E P X=2∨rdKind E P X=1 then 0 else 4)else rdErr E P X
def vK(E P X:Int):Int:=if vErr E P X=0 then rdK E P X else 0
theorem zeroE_is{w:World}{v:Value}{k e:Int}(h:ResIs w ⟨none,.tuple #[.agg zeroA,.int .i64 e]⟩ v):ResIs w (resNE 0 k e) v:=by
 have q:v=.tuple #[.agg zeroA,.int .i64 e]:=h
 subst q
 refine⟨zeroA,is_zero w k,fun ρ n hn=>?_⟩
 exact VRel.tuple_of (LRel.arel (l:=[_,_]) (l':=[_,_]) ⟨VRel.agg_of (LRel.arel (l:=[_,_,_,_]) (l':=[_,_,_,_]) ⟨.bool _,.tok _ 1 _ _ hn rfl rfl,.tok _ 2 _ _ hn rfl rfl,.tok _ 3 _ _ hn rfl rfl,trivial⟩),.int _ _,trivial⟩)
theorem value_con{E P X:Int}(h0:0≤X)(h1:X<two128):Con Tryz.prog TR 32 [.v (fmtV E P),.v (wordV X)] (resNE (vK E P X) (fineOf E P) (vErr E P X)):=by
 have g:=groundFX E P X
 have bX:wB (wordV X)=true:=wB_wordV h0 h1
 have c0: ∀neg e,rdNeg E P X=neg→(rdErr E P X !=0)=e→ ∀c∈vcs0 E P X neg e,c.1=c.2:=by
  intro neg e e1 e2
  unfold vcs0
  simp only[List.forall_mem_cons,wX_wordV]
  exact⟨e2,trivial,e1,bX,fun c hc=>by cases hc⟩
 have c1: ∀neg a,rdNeg E P X=neg→rdErr E P X=0→(rdKind E P X !=2)=a→ ∀c∈vcs1 E P X neg a,c.1=c.2:=by
  intro neg a e1 e2 e3
  unfold vcs1
  simp only[List.forall_mem_cons,wX_wordV]
  exact⟨e3,trivial,c0 _ _ e1 (by simp[e2])⟩
 have c2: ∀neg b,rdNeg E P X=neg→rdErr E P X=0→(rdKind E P X !=2)=true→(rdKind E P X !=1)=b→ ∀c∈vcs2 E P X neg b,c.1=c.2:=by
  intro neg b e1 e2 e3 e4
  unfold vcs2
  simp only[List.forall_mem_cons,wX_wordV]
  exact⟨e4,trivial,c1 _ _ e1 e2 e3⟩
 cases hn:rdNeg E P X
 ·by_cases he:rdErr E P X=0
  ·by_cases hk:rdKind E P X=2
   ·have hv:vErr E P X=0:=by unfold vErr;rw[if_pos he,if_pos (.inl hk)]
    have hK:vK E P X=rdK E P X:=by unfold vK;rw[if_pos hv]
    rw[hv,hK]
    have hrun:=val_f_f E P X
    rw[wX_wordV]at hrun
    exact con_sym readO_ok hrun (by simp only[List.forall_mem_cons];exact⟨trivial,c1 _ _ hn he (by simp[hk])⟩) (by simp) g ⟨rfl,rfl,rfl⟩
   ·by_cases hk1:rdKind E P X=1
    ·have hv:vErr E P X=0:=by unfold vErr;rw[if_pos he,if_pos (.inr hk1)]
     have hK:vK E P X=rdK E P X:=by unfold vK;rw[if_pos hv]
     rw[hv,hK]
     have hrun:=val_f_z E P X
     rw[wX_wordV]at hrun
     exact con_sym readO_ok hrun (by simp only[List.forall_mem_cons];exact⟨trivial,c2 _ _ hn he (by simp[hk]) (by simp[hk1])⟩) (by simp) g ⟨rfl,rfl,rfl⟩
    ·have hv:vErr E P X=4:=by unfold vErr;rw[if_pos he,if_neg (by omega)]
     have hK:vK E P X=0:=by unfold vK;rw[if_neg (by omega)]
     rw[hv,hK]
     exact con_imp (con_plain readO_ok (val_f_n E P X) (by simp only[List.forall_mem_cons];exact⟨trivial,c2 _ _ hn he (by simp[hk]) (by simp[hk1])⟩) (by simp) g rfl rfl) fun w v hr=>zeroE_is hr
  ·have hv:vErr E P X=rdErr E P X:=by unfold vErr;rw[if_neg he]
   have hK:vK E P X=0:=by unfold vK;rw[if_neg (by omega)]
   rw[hv,hK]
   have hrun:=val_f_e E P X
   rw[wX_wordV]at hrun
   exact con_imp (con_plain readO_ok hrun (by simp only[List.forall_mem_cons];exact⟨trivial,c0 _ _ hn (by simp[he])⟩) (by simp) g rfl rfl) fun w v hr=>zeroE_is hr
 ·by_cases he:rdErr E P X=0
  ·by_cases hk:rdKind E P X=2
   ·have hv:vErr E P X=0:=by unfold vErr;rw[if_pos he,if_pos (.inl hk)]
    have hK:vK E P X=rdK E P X:=by unfold vK;rw[if_pos hv]
    rw[hv,hK]
    have hrun:=val_t_f E P X
    rw[wX_wordV]at hrun
    exact con_sym readO_ok hrun (by simp only[List.forall_mem_cons];exact⟨trivial,c1 _ _ hn he (by simp[hk])⟩) (by simp) g ⟨rfl,rfl,rfl⟩
   ·by_cases hk1:rdKind E P X=1
    ·have hv:vErr E P X=0:=by unfold vErr;rw[if_pos he,if_pos (.inr hk1)]
     have hK:vK E P X=rdK E P X:=by unfold vK;rw[if_pos hv]
     rw[hv,hK]
     have hrun:=val_t_z E P X
     rw[wX_wordV]at hrun
     exact con_sym readO_ok hrun (by simp only[List.forall_mem_cons];exact⟨trivial,c2 _ _ hn he (by simp[hk]) (by simp[hk1])⟩) (by simp) g ⟨rfl,rfl,rfl⟩
    ·have hv:vErr E P X=4:=by unfold vErr;rw[if_pos he,if_neg (by omega)]
     have hK:vK E P X=0:=by unfold vK;rw[if_neg (by omega)]
     rw[hv,hK]
     exact con_imp (con_plain readO_ok (val_t_n E P X) (by simp only[List.forall_mem_cons];exact⟨trivial,c2 _ _ hn he (by simp[hk]) (by simp[hk1])⟩) (by simp) g rfl rfl) fun w v hr=>zeroE_is hr
  ·have hv:vErr E P X=rdErr E P X:=by unfold vErr;rw[if_neg he]
   have hK:vK E P X=0:=by unfold vK;rw[if_neg (by omega)]
   rw[hv,hK]
   have hrun:=val_t_e E P X
   rw[wX_wordV]at hrun
   exact con_imp (con_plain readO_ok hrun (by simp only[List.forall_mem_cons];exact⟨trivial,c0 _ _ hn (by simp[he])⟩) (by simp) g rfl rfl) fun w v hr=>zeroE_is hr
def valueS(xs:List Ar):Option Res:=match xs with
 |[.v a,.v b]=>match fmt2 a with
  |some (E,P)=>some (resNE (vK E P (wX b)) (fineOf E P) (vErr E P (wX b)))
  |none=>none
 |_=>none
def valueO:CF→St→Option (Value×St):=oracle 32 (conSpec TR readP valueS)
theorem valueO_ok:RunOkE Tryz.prog valueO:=con_oracle numG gTR roTR2 fun xs R h hp=>by
 unfold valueS at h
 split at h
 ·split at h
  ·rename_i hm
   injection h with h
   subst h
   unfold readP at hp
   simp only at hp
   rw[fmt2_ok hm,wB_eq hp,wX_wordV]
   exact value_con (wX_range hp).1 (wX_range hp).2
  ·cases h
 ·cases h
end Go.Proofs.YtedhbbjlbgpafaaGreatDoor
