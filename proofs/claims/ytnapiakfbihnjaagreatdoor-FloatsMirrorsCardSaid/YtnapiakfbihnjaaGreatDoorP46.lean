/-
  FloatsMirrors: where opposite is true; Add, Mul, Div and Cast as answers.
-/
import Derived.Test.YtnapiakfbihnjaaGreatDoorP45
set_option linter.unusedVariables false
set_option linter.unusedSimpArgs false
namespace Go.Proofs.YtnapiakfbihnjaaGreatDoor
open Go.RowKit Go.Shelf Go.Canon Go.Proofs.Tryz
def arC:CF→St→Option (Value×St):=orElse aju aaX
theorem an3:aN prog arC:=aA ag7 TZ
def resV(h l f:Int):Value:=.agg #[.int .u64 h,.int .u64 l,.int .i64 f,.int .i64 0]
noncomputable def ajR(E P xh xl xf yh yl yf:Int)(an:List Bool)(n:Nat):Option (Value×Option gW×List (Bool×Bool)):=dJ prog TL (nest arC 1) 1000 25 [.v (kH E P),.v (resV xh xl xf),.v (resV yh yl yf)] an n
def Ip(E P xh xl:Int)(na:Bool):L_:=[t_,f_,t_,f_,t_,f_,t_,(ak E P (wX (wv xh xl)),na),(decide (aG E P)&&(wB (wv xh xl)&&decide (wX (wv xh xl)<2*ai E P)),T_)]
def YS(E P xh xl xf yh yl yf:Int)(na:Bool):L_:=(xf==yf,T_)::t_::t_::(decide (yh=aF E P (wX (wv xh xl))/18446744073709551616∧yl=aF E P (wX (wv xh xl))%18446744073709551616),T_)::(decide (aG E P)&&wB (wv xh xl),T_)::(kindOf E P (wX (wv xh xl))==4,F_)::Ip E P xh xl na
set_option maxRecDepth 1000000 in
theorem ayK(E P xh xl xf yh yl yf:Int)(na:Bool):ajR E P xh xl xf yh yl yf [na,F_,F_,F_,F_,T_,T_,T_] 1=some (.bool true,some (.fact 0),YS E P xh xl xf yh yl yf na):=by kernel_rfl
def YT(E P xh xl xf yh yl yf:Int)(na:Bool):L_:=(decide (xh=yh∧xl=yl∧xf=yf∧(0:Int)=0),T_)::(kindOf E P (wX (wv xh xl))==4,T_)::Ip E P xh xl na
set_option maxRecDepth 1000000 in
theorem ayL(E P xh xl xf yh yl yf:Int)(na:Bool):ajR E P xh xl xf yh yl yf [na,F_,F_,F_,T_,T_,T_] 1=some (.bool true,some (.fact 0),YT E P xh xl xf yh yl yf na):=by kernel_rfl
def UC(E P xh xl xf yh yl yf:Int):Bool:=
 decide (aG E P)&&(wB (wv xh xl)&&(decide (wX (wv xh xl)<2*ai E P)&&(if kindOf E P (wX (wv xh xl))=4 then decide (xh=yh∧xl=yl∧xf=yf)else decide (yh=aF E P (wX (wv xh xl))/18446744073709551616∧yl=aF E P (wX (wv xh xl))%18446744073709551616∧xf=yf))))
theorem an4{E P xh xl xf yh yl yf:Int}(hp:UC E P xh xl xf yh yl yf=true):dU prog TL 25 [.v (kH E P),.v (resV xh xl xf),.v (resV yh yl yf)] ⟨none,.bool true⟩:=by
 unfold UC at hp
 rw[Bool.and_eq_true,Bool.and_eq_true,Bool.and_eq_true]at hp
 obtain⟨h1,h2,h3,h4⟩:=hp
 have g: ∀x,Ar.v x∈ [Ar.v (kH E P),.v (resV xh xl xf),.v (resV yh yl yf)]→ground 9 x=true:=fun x hx=>by
  simp at hx;rcases hx with rfl|rfl|rfl<;>rfl
 have ok:=rC an3 1
 have p0:(decide (aG E P)&&(wB (wv xh xl)&&decide (wX (wv xh xl)<2*ai E P)))=true:=by rw[h1,h2,h3];rfl
 have p1:(decide (aG E P)&&wB (wv xh xl))=true:=by rw[h1,h2];rfl
 by_cases hk:kindOf E P (wX (wv xh xl))=4
 ·rw[if_pos hk]at h4
  obtain⟨e1,e2,e3⟩:=of_decide_eq_true h4
  have p2:(kindOf E P (wX (wv xh xl))==4)=true:=by rw[hk];rfl
  have p3:decide (xh=yh∧xl=yl∧xf=yf∧(0:Int)=0)=true:=decide_eq_true ⟨e1,e2,e3,rfl⟩
  exact nJ dH mX qL gTL Ei AQ ok (by simp) g (ayL E P xh xl xf yh yl yf (ak E P (wX (wv xh xl)))) (by simp only[YT,Ip,List.forall_mem_cons];(repeat' apply And.intro)<;>first|exact⟨⟩|with_reducible (first|rfl|assumption)|(simp[e1,e2,e3];done)) ⟨rfl,rfl⟩
 ·rw[if_neg hk]at h4
  obtain⟨e1,e2,e3⟩:=of_decide_eq_true h4
  have p2:(kindOf E P (wX (wv xh xl))==4)=false:=by rw[beq_eq_false_iff_ne];exact hk
  have p3:decide (yh=aF E P (wX (wv xh xl))/18446744073709551616∧yl=aF E P (wX (wv xh xl))%18446744073709551616)=true:=decide_eq_true ⟨e1,e2⟩
  have p4:(xf==yf)=true:=by rw[beq_iff_eq];exact e3
  exact nJ dH mX qL gTL Ei AQ ok (by simp) g (ayK E P xh xl xf yh yl yf (ak E P (wX (wv xh xl)))) (by simp only[YS,Ip,List.forall_mem_cons];(repeat' apply And.intro)<;>first|exact⟨⟩|with_reducible (first|rfl|assumption)|simp) ⟨rfl,rfl⟩
def aba(v:Value):Option (Int×Int×Int×Int):=match v with
 |.agg x=>match x.toList with
  |[.int .u64 h,.int .u64 l,.int .i64 f,.int .i64 z]=>some (h,l,f,z)
  |_=>none
 |_=>none
theorem YU{v:Value}{h l f z:Int}(e:aba v=some (h,l,f,z))(hz:z=0):v=resV h l f:=by
 unfold aba at e
 split at e
 ·rename_i x
  split at e
  ·rename_i h' l' f' z' hx
   injection e with e;injection e with e1 e;injection e with e2 e;injection e with e3 e4
   subst e1 e2 e3 e4
   subst hz
   rw[show x=⟨x.toList⟩from rfl,hx];rfl
  ·cases e
 ·cases e
def arE(xs:List Ar):Option bP:=match xs with
 |[.v _,.v _,.v _]=>some ⟨none,.bool true⟩
 |_=>none
def arG(xs:List Ar):Bool:=match xs with
 |[.v a,.v x,.v y]=>match fmt2 a with
  |some (E,P)=>match aba x with
   |some (xh,xl,xf,xe)=>match aba y with
    |some (yh,yl,yf,ye)=>decide (xe=0∧ye=0)&&UC E P xh xl xf yh yl yf
    |none=>false
   |none=>false
  |none=>false
 |_=>false
def Pj:CF→St→Option (Value×St):=bF 25 (aZ TL arG arE)
theorem UD:aN prog Pj:=aP dH gTL QE fun xs R h hp=>by
 unfold arE at h
 split at h
 ·injection h with h
  subst h
  unfold arG at hp
  simp only at hp
  split at hp
  ·rename_i E P he
   split at hp
   ·rename_i xh xl xf xe hx
    split at hp
    ·rename_i yh yl yf ye hy
     rw[Bool.and_eq_true]at hp
     obtain⟨z1,z2⟩:=of_decide_eq_true hp.1
     rw[rH he,YU hx z1,YU hy z2]
     exact an4 hp.2
    ·cases hp
   ·cases hp
  ·cases hp
 ·cases h
def abf(W F e:Int):Value:=.tuple #[ae (if e=0 then W else 0),.int .i64 (if e=0 then F else 0),.int .i64 e]
theorem YV(W F e:Int):(if e=0 then dC W F else jB e)=abf W F e:=by
 unfold abf
 by_cases h:e=0
 ·subst h;rfl
 ·rw[if_neg h,if_neg h,if_neg h];rfl
def UE(W F:Int→Int→Int→Int→Int→Int)(xs:List Ar):Option bP:=match xs with
 |[.v a,.v (.int .i64 m),.v x,.v y]=>match fmt2 a with
  |some (E,P)=>some ⟨none,abf (W E P m (wX x) (wX y)) (F E P m (wX x) (wX y)) (bi E P m [wX x,wX y])⟩
  |none=>none
 |_=>none
def UF(xs:List Ar):Bool:=match xs with
 |[.v _,.v (.int .i64 _),.v x,.v y]=>wB x&&wB y
 |_=>false
theorem EL{g:FuncId}{W F:Int→Int→Int→Int→Int→Int}(hc: ∀{E P m X Y:Int},0≤X→X<aW→0≤Y→Y<aW→dU prog TR g [.v (kH E P),.v (.int .i64 m),.v (ae X),.v (ae Y)] ⟨none,if bi E P m [X,Y]=0 then dC (W E P m X Y) (F E P m X Y)else jB (bi E P m [X,Y])⟩):aN prog (bF g (aZ TR UF (UE W F))):=aP dH xP oh fun xs R h hp=>by
 unfold UE at h
 split at h
 ·rename_i a m x y
  split at h
  ·rename_i E P hm
   injection h with h
   subst h
   unfold UF at hp
   rw[Bool.and_eq_true]at hp
   rw[rH hm]
   have:=hc (E:=E) (P:=P) (m:=m) (jW hp.1).1 (jW hp.1).2 (jW hp.2).1 (jW hp.2).2
   rw[YV,←AU hp.1,←AU hp.2]at this
   exact this
  ·cases h
 ·cases h
def ajS:CF→St→Option (Value×St):=bF 6 (aZ TR UF (UE adW uJ))
theorem ahG:aN prog ajS:=EL agS
def ajT:CF→St→Option (Value×St):=bF 10 (aZ TR UF (UE mlW mF))
theorem ahH:aN prog ajT:=EL ahJ
def ajU:CF→St→Option (Value×St):=bF 12 (aZ TR UF (UE AZ A7))
theorem ahK:aN prog ajU:=EL ahk
def caS(xs:List Ar):Option bP:=match xs with
 |[.v a,.v b,.v (.int .i64 m),.v x]=>match fmt2 a with
  |some (E,P)=>match fmt2 b with
   |some (G,Q)=>some ⟨none,abf (AO E P G Q m (wX x)) (AP E P G Q m (wX x)) (kN E P G Q m (wX x))⟩
   |none=>none
  |none=>none
 |_=>none
def caP(xs:List Ar):Bool:=match xs with
 |[.v _,.v _,.v (.int .i64 _),.v x]=>wB x
 |_=>false
def aeg:CF→St→Option (Value×St):=bF 27 (aZ TR caP caS)
theorem aeh:aN prog aeg:=aP dH xP oh fun xs R h hp=>by
 unfold caS at h
 split at h
 ·rename_i a b m x
  split at h
  ·rename_i E P hm
   split at h
   ·rename_i G Q hm2
    injection h with h
    subst h
    unfold caP at hp
    rw[rH hm,rH hm2]
    have:=adK (E:=E) (P:=P) (G:=G) (Q:=Q) (m:=m) (jW hp).1 (jW hp).2
    unfold aaB at this
    rw[YV,←AU hp]at this
    exact this
   ·cases h
  ·cases h
 ·cases h
end Go.Proofs.YtnapiakfbihnjaaGreatDoor
