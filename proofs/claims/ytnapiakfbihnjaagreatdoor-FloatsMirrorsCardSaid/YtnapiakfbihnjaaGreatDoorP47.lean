/-
  FloatsMirrors: the law's other, as an answer.
-/
import Derived.Test.YtnapiakfbihnjaaGreatDoorP46
set_option linter.unusedVariables false
set_option linter.unusedSimpArgs false
namespace Go.Proofs.YtnapiakfbihnjaaGreatDoor
open Go.RowKit Go.Shelf Go.Canon
noncomputable def abg(m:Int)(an:List Bool)(n:Nat):Option (Value×Option gW×List (Bool×Bool)):=dJ Tryz.prog TR KE 1000 21 [.v (.int .i64 m)] an n
def YW(m:Int):L_:=[(m==3,T_)]
set_option maxRecDepth 1000000 in
theorem ayM(m:Int):abg m [true,true] 1=some (.int .i64 4,some (.fact 0),YW m):=by kernel_rfl
def YX(m:Int):L_:=[(m==4,T_),(m==3,F_)]
set_option maxRecDepth 1000000 in
theorem ayO(m:Int):abg m [false,true,true] 1=some (.int .i64 3,some (.fact 0),YX m):=by kernel_rfl
def YY(m:Int):L_:=[(m==4,F_),(m==3,F_)]
set_option maxRecDepth 1000000 in
theorem ayP(m:Int):abg m [false,false,true] 1=some (.int .i64 m,some (.fact 0),YY m):=by kernel_rfl
theorem aei(m:Int):dU Tryz.prog TR 21 [.v (.int .i64 m)] ⟨none,.int .i64 (bU m)⟩:=by
 have g: ∀x,Ar.v x∈ [Ar.v (.int .i64 m)]→ground 9 x=true:=fun x hx=>by
  simp at hx;subst hx;rfl
 by_cases h3:m=3
 ·have t3:(m==3)=true:=by simp[h3]
  exact af (xC _) (ayM m) (by simp only[YW,List.forall_mem_cons];(repeat' apply And.intro)<;>first|exact⟨⟩|with_reducible (first|rfl|assumption)|simp) (by simp) g (by subst h3;rfl) rfl
 have t3:(m==3)=false:=by simp[h3]
 by_cases h4:m=4
 ·have t4:(m==4)=true:=by simp[h4]
  exact af (xC _) (ayO m) (by simp only[YX,List.forall_mem_cons];(repeat' apply And.intro)<;>first|exact⟨⟩|with_reducible (first|rfl|assumption)|simp) (by simp) g (by subst h4;rfl) rfl
 have t4:(m==4)=false:=by simp[h4]
 exact af (xC _) (ayP m) (by simp only[YY,List.forall_mem_cons];(repeat' apply And.intro)<;>first|exact⟨⟩|with_reducible (first|rfl|assumption)|simp) (by simp) g (by unfold bU;rw[if_neg h3,if_neg h4]) rfl
def aek(xs:List Ar):Option bP:=match xs with
 |[.v (.int .i64 m)]=>some ⟨none,.int .i64 (bU m)⟩
 |_=>none
def ael:CF→St→Option (Value×St):=bF 21 (aZ TR (fun _=>true) aek)
theorem aem:aN Tryz.prog ael:=aP dH xP oh fun xs R h hp=>by
 unfold aek at h
 split at h
 ·injection h with h
  subst h
  exact aei _
 ·cases h
end Go.Proofs.YtnapiakfbihnjaaGreatDoor
