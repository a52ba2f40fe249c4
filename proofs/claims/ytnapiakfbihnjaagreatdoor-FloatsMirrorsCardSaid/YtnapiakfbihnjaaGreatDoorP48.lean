/-
  FloatsMirrors: the paths of the law; it returns true whatever its argument. Condition: E, P, m any numbers, the halves of the words below 2^64.
-/
import Derived.Test.YtnapiakfbihnjaaGreatDoorP47
import Derived.Test.YtnapiakfbihnjaaGreatDoorCards
import Derived.Test.YtnapiakfbihnjaaGreatDoorTie
import Derived.WalkKit
import Derived.ProofKit
import Derived.OpenShut
import Derived.Deep.DeepHandedRow
import Derived.Deep.DeepWitnessRowRef
import Derived.LaidMore
import Derived.Lib.LaidTab
set_option linter.unusedVariables false
set_option linter.unusedSimpArgs false
set_option maxRecDepth 1000000
namespace Go.Proofs.YtnapiakfbihnjaaGreatDoor
open Go.RowKit Go.Shelf Go.Canon
def omC:CF→St→Option (Value×St):=orElse adp (orElse ael (orElse ajS (orElse ajT (orElse ajU (orElse aeg (orElse aeo (orElse La (orElse aaX Pj))))))))
theorem arJ:aN Tryz.prog omC:=aA adr (aA aem (aA ahG (aA ahH (aA ahK (aA aeh (aA aep (aA Eh (aA TZ UD))))))))
noncomputable def QK(E P m ah al bh bl ch cl:Int)(an:List Bool)(n:Nat):Option (Value×Option gW×List (Bool×Bool)):=dJ Tryz.prog TL (nest omC 1) 1000 4 [.v (Lt E P m ah al bh bl ch cl)] an n
def sV(E P W F e W' F' e':Int):Bool:=decide (e=0∧e'=0)&&UC E P ((if e=0 then W else 0)/18446744073709551616) ((if e=0 then W else 0)%18446744073709551616) (if e=0 then F else 0) ((if e'=0 then W' else 0)/18446744073709551616) ((if e'=0 then W' else 0)%18446744073709551616) (if e'=0 then F' else 0)
def eqR(W F e W' F' e':Int):Bool:=decide ((if e=0 then W else 0)/18446744073709551616=(if e'=0 then W' else 0)/18446744073709551616∧(if e=0 then W else 0)%18446744073709551616=(if e'=0 then W' else 0)%18446744073709551616∧(if e=0 then F else 0)=(if e'=0 then F' else 0)∧e=e')
theorem UG(W F e:Int):(!eqR W F e W F e)=false:=by simp[eqR]
def yZ(E P m ah al bh bl:Int):L_:=[t_,(!eqR (mlW E P m (wX (wv ah al)) (wX (wv bh bl))) (mF E P m (wX (wv ah al)) (wX (wv bh bl))) (bi E P m [(wX (wv ah al)),(wX (wv bh bl))]) (mlW E P m (wX (wv bh bl)) (wX (wv ah al))) (mF E P m (wX (wv bh bl)) (wX (wv ah al))) (bi E P m [(wX (wv bh bl)),(wX (wv ah al))]),F_),t_,(wB (wv bh bl)&&wB (wv ah al),T_),(!eqR (adW E P m (wX (wv ah al)) (wX (wv bh bl))) (uJ E P m (wX (wv ah al)) (wX (wv bh bl))) (bi E P m [(wX (wv ah al)),(wX (wv bh bl))]) (adW E P m (wX (wv bh bl)) (wX (wv ah al))) (uJ E P m (wX (wv bh bl)) (wX (wv ah al))) (bi E P m [(wX (wv bh bl)),(wX (wv ah al))]),F_),t_,(wB (wv bh bl)&&wB (wv ah al),T_),t_,t_,t_,(wB (wv ah al)&&wB (wv bh bl),T_),t_,(wB (wv ah al)&&wB (wv bh bl),T_),t_,t_,t_,t_]
def Dv(E P m ah al bh bl:Int):L_:=t_::(wB (ae (if bi E P m [(wX (wv ah al)),(wX (wv bh bl))]=0 then adW E P m (wX (wv ah al)) (wX (wv bh bl))else 0)),T_)::t_::t_::(decide (aG E P)&&wB (wv bh bl),T_)::(decide (aG E P)&&wB (wv ah al),T_)::((bi E P m [(wX (wv ah al)),(wX (wv bh bl))]) !=0,F_)::yZ E P m ah al bh bl
def Iq(E P m ah al bh bl:Int):L_:=t_::(decide ((vK E P (wX (ae (if bi E P m [(wX (wv ah al)),(wX (wv bh bl))]=0 then adW E P m (wX (wv ah al)) (wX (wv bh bl))else 0))))<0)==decide ((vK E P (wX (ae (if bi E P m [(wX (wv ah al)),(wX (wv bh bl))]=0 then adW E P m (wX (wv ah al)) (wX (wv bh bl))else 0))))<0),T_)::(lm E P (wX (ae (if bi E P m [(wX (wv ah al)),(wX (wv bh bl))]=0 then adW E P m (wX (wv ah al)) (wX (wv bh bl))else 0))) !=0,F_)::Dv E P m ah al bh bl
def Pm(E P m ah al bh bl ch cl:Int):L_:=t_::t_::((bi E P m [(wX (wv ah al)),(wX (wv bh bl))]) !=0,T_)::yZ E P m ah al bh bl
theorem arK(E P m ah al bh bl ch cl:Int):QK E P m ah al bh bl ch cl [F_,F_,T_,T_,T_] 1=some (.bool true,some (.fact 0),Pm E P m ah al bh bl ch cl):=by kernel_rfl
def Pn(E P m ah al bh bl ch cl:Int):L_:=t_::t_::t_::(sV 3 3 (AO E P 3 3 m (wX (wv ah al))) (AP E P 3 3 m (wX (wv ah al))) (kN E P 3 3 m (wX (wv ah al))) (AO E P 3 3 (bU m) (wX (ae (aF E P (wX (wv ah al)))))) (AP E P 3 3 (bU m) (wX (ae (aF E P (wX (wv ah al)))))) (kN E P 3 3 (bU m) (wX (ae (aF E P (wX (wv ah al)))))),T_)::t_::(wB (ae (aF E P (wX (wv ah al)))),T_)::t_::t_::(wB (wv ah al),T_)::t_::t_::t_::(sV E P (AZ E P m (wX (wv ah al)) (wX (wv bh bl))) (A7 E P m (wX (wv ah al)) (wX (wv bh bl))) (bi E P m [(wX (wv ah al)),(wX (wv bh bl))]) (AZ E P (bU m) (wX (ae (aF E P (wX (wv ah al))))) (wX (wv bh bl))) (A7 E P (bU m) (wX (ae (aF E P (wX (wv ah al))))) (wX (wv bh bl))) (bi E P (bU m) [(wX (ae (aF E P (wX (wv ah al))))),(wX (wv bh bl))]),T_)::t_::(wB (ae (aF E P (wX (wv ah al))))&&wB (wv bh bl),T_)::t_::(wB (wv ah al)&&wB (wv bh bl),T_)::t_::(sV E P (mlW E P m (wX (wv ah al)) (wX (wv bh bl))) (mF E P m (wX (wv ah al)) (wX (wv bh bl))) (bi E P m [(wX (wv ah al)),(wX (wv bh bl))]) (mlW E P (bU m) (wX (wv ah al)) (wX (ae (aF E P (wX (wv bh bl)))))) (mF E P (bU m) (wX (wv ah al)) (wX (ae (aF E P (wX (wv bh bl)))))) (bi E P (bU m) [(wX (wv ah al)),(wX (ae (aF E P (wX (wv bh bl)))))]),T_)::t_::(wB (wv ah al)&&wB (ae (aF E P (wX (wv bh bl)))),T_)::t_::(sV E P (mlW E P m (wX (wv ah al)) (wX (wv bh bl))) (mF E P m (wX (wv ah al)) (wX (wv bh bl))) (bi E P m [(wX (wv ah al)),(wX (wv bh bl))]) (mlW E P (bU m) (wX (ae (aF E P (wX (wv ah al))))) (wX (wv bh bl))) (mF E P (bU m) (wX (ae (aF E P (wX (wv ah al))))) (wX (wv bh bl))) (bi E P (bU m) [(wX (ae (aF E P (wX (wv ah al))))),(wX (wv bh bl))]),T_)::t_::(wB (ae (aF E P (wX (wv ah al))))&&wB (wv bh bl),T_)::t_::(sV E P (adW E P m (wX (wv ah al)) (wX (wv bh bl))) (uJ E P m (wX (wv ah al)) (wX (wv bh bl))) (bi E P m [(wX (wv ah al)),(wX (wv bh bl))]) (adW E P (bU m) (wX (ae (aF E P (wX (wv ah al))))) (wX (ae (aF E P (wX (wv bh bl)))))) (uJ E P (bU m) (wX (ae (aF E P (wX (wv ah al))))) (wX (ae (aF E P (wX (wv bh bl)))))) (bi E P (bU m) [(wX (ae (aF E P (wX (wv ah al))))),(wX (ae (aF E P (wX (wv bh bl)))))]),T_)::t_::(wB (ae (aF E P (wX (wv ah al))))&&wB (ae (aF E P (wX (wv bh bl)))),T_)::(lm E P (wX (ae (if bi E P m [(wX (wv ah al)),(wX (wv bh bl))]=0 then adW E P m (wX (wv ah al)) (wX (wv bh bl))else 0))) !=0,T_)::Dv E P m ah al bh bl
theorem arL(E P m ah al bh bl ch cl:Int):QK E P m ah al bh bl ch cl [F_,F_,F_,T_,T_,T_,T_,T_,T_,T_,T_] 1=some (.bool true,some (.fact 0),Pn E P m ah al bh bl ch cl):=by kernel_rfl
def LD(E P m ah al bh bl ch cl:Int):L_:=t_::t_::t_::(sV 3 3 (AO E P 3 3 m (wX (wv ah al))) (AP E P 3 3 m (wX (wv ah al))) (kN E P 3 3 m (wX (wv ah al))) (AO E P 3 3 (bU m) (wX (ae (aF E P (wX (wv ah al)))))) (AP E P 3 3 (bU m) (wX (ae (aF E P (wX (wv ah al)))))) (kN E P 3 3 (bU m) (wX (ae (aF E P (wX (wv ah al)))))),T_)::t_::(wB (ae (aF E P (wX (wv ah al)))),T_)::t_::t_::(wB (wv ah al),T_)::t_::t_::t_::(sV E P (AZ E P m (wX (wv ah al)) (wX (wv bh bl))) (A7 E P m (wX (wv ah al)) (wX (wv bh bl))) (bi E P m [(wX (wv ah al)),(wX (wv bh bl))]) (AZ E P (bU m) (wX (ae (aF E P (wX (wv ah al))))) (wX (wv bh bl))) (A7 E P (bU m) (wX (ae (aF E P (wX (wv ah al))))) (wX (wv bh bl))) (bi E P (bU m) [(wX (ae (aF E P (wX (wv ah al))))),(wX (wv bh bl))]),T_)::t_::(wB (ae (aF E P (wX (wv ah al))))&&wB (wv bh bl),T_)::t_::(wB (wv ah al)&&wB (wv bh bl),T_)::t_::(sV E P (mlW E P m (wX (wv ah al)) (wX (wv bh bl))) (mF E P m (wX (wv ah al)) (wX (wv bh bl))) (bi E P m [(wX (wv ah al)),(wX (wv bh bl))]) (mlW E P (bU m) (wX (wv ah al)) (wX (ae (aF E P (wX (wv bh bl)))))) (mF E P (bU m) (wX (wv ah al)) (wX (ae (aF E P (wX (wv bh bl)))))) (bi E P (bU m) [(wX (wv ah al)),(wX (ae (aF E P (wX (wv bh bl)))))]),T_)::t_::(wB (wv ah al)&&wB (ae (aF E P (wX (wv bh bl)))),T_)::t_::(sV E P (mlW E P m (wX (wv ah al)) (wX (wv bh bl))) (mF E P m (wX (wv ah al)) (wX (wv bh bl))) (bi E P m [(wX (wv ah al)),(wX (wv bh bl))]) (mlW E P (bU m) (wX (ae (aF E P (wX (wv ah al))))) (wX (wv bh bl))) (mF E P (bU m) (wX (ae (aF E P (wX (wv ah al))))) (wX (wv bh bl))) (bi E P (bU m) [(wX (ae (aF E P (wX (wv ah al))))),(wX (wv bh bl))]),T_)::t_::(wB (ae (aF E P (wX (wv ah al))))&&wB (wv bh bl),T_)::(pV (vK E P (wX (ae (if bi E P m [(wX (wv ah al)),(wX (wv bh bl))]=0 then adW E P m (wX (wv ah al)) (wX (wv bh bl))else 0)))) !=0,F_)::Iq E P m ah al bh bl
theorem an6(E P m ah al bh bl ch cl:Int):QK E P m ah al bh bl ch cl [F_,F_,F_,F_,F_,T_,T_,T_,T_,T_,T_] 1=some (.bool true,some (.fact 0),LD E P m ah al bh bl ch cl):=by kernel_rfl
def Po(E P m ah al bh bl ch cl:Int):L_:=t_::t_::t_::(sV 3 3 (AO E P 3 3 m (wX (wv ah al))) (AP E P 3 3 m (wX (wv ah al))) (kN E P 3 3 m (wX (wv ah al))) (AO E P 3 3 (bU m) (wX (ae (aF E P (wX (wv ah al)))))) (AP E P 3 3 (bU m) (wX (ae (aF E P (wX (wv ah al)))))) (kN E P 3 3 (bU m) (wX (ae (aF E P (wX (wv ah al)))))),T_)::t_::(wB (ae (aF E P (wX (wv ah al)))),T_)::t_::t_::(wB (wv ah al),T_)::t_::t_::t_::(sV E P (AZ E P m (wX (wv ah al)) (wX (wv bh bl))) (A7 E P m (wX (wv ah al)) (wX (wv bh bl))) (bi E P m [(wX (wv ah al)),(wX (wv bh bl))]) (AZ E P (bU m) (wX (ae (aF E P (wX (wv ah al))))) (wX (wv bh bl))) (A7 E P (bU m) (wX (ae (aF E P (wX (wv ah al))))) (wX (wv bh bl))) (bi E P (bU m) [(wX (ae (aF E P (wX (wv ah al))))),(wX (wv bh bl))]),T_)::t_::(wB (ae (aF E P (wX (wv ah al))))&&wB (wv bh bl),T_)::t_::(wB (wv ah al)&&wB (wv bh bl),T_)::t_::(sV E P (mlW E P m (wX (wv ah al)) (wX (wv bh bl))) (mF E P m (wX (wv ah al)) (wX (wv bh bl))) (bi E P m [(wX (wv ah al)),(wX (wv bh bl))]) (mlW E P (bU m) (wX (wv ah al)) (wX (ae (aF E P (wX (wv bh bl)))))) (mF E P (bU m) (wX (wv ah al)) (wX (ae (aF E P (wX (wv bh bl)))))) (bi E P (bU m) [(wX (wv ah al)),(wX (ae (aF E P (wX (wv bh bl)))))]),T_)::t_::(wB (wv ah al)&&wB (ae (aF E P (wX (wv bh bl)))),T_)::t_::(sV E P (mlW E P m (wX (wv ah al)) (wX (wv bh bl))) (mF E P m (wX (wv ah al)) (wX (wv bh bl))) (bi E P m [(wX (wv ah al)),(wX (wv bh bl))]) (mlW E P (bU m) (wX (ae (aF E P (wX (wv ah al))))) (wX (wv bh bl))) (mF E P (bU m) (wX (ae (aF E P (wX (wv ah al))))) (wX (wv bh bl))) (bi E P (bU m) [(wX (ae (aF E P (wX (wv ah al))))),(wX (wv bh bl))]),T_)::t_::(wB (ae (aF E P (wX (wv ah al))))&&wB (wv bh bl),T_)::t_::(sV E P (adW E P m (wX (wv ah al)) (wX (wv bh bl))) (uJ E P m (wX (wv ah al)) (wX (wv bh bl))) (bi E P m [(wX (wv ah al)),(wX (wv bh bl))]) (adW E P (bU m) (wX (ae (aF E P (wX (wv ah al))))) (wX (ae (aF E P (wX (wv bh bl)))))) (uJ E P (bU m) (wX (ae (aF E P (wX (wv ah al))))) (wX (ae (aF E P (wX (wv bh bl)))))) (bi E P (bU m) [(wX (ae (aF E P (wX (wv ah al))))),(wX (ae (aF E P (wX (wv bh bl)))))]),T_)::t_::(wB (ae (aF E P (wX (wv ah al))))&&wB (ae (aF E P (wX (wv bh bl)))),T_)::(pV (vK E P (wX (ae (if bi E P m [(wX (wv ah al)),(wX (wv bh bl))]=0 then adW E P m (wX (wv ah al)) (wX (wv bh bl))else 0)))) !=0,T_)::Iq E P m ah al bh bl
theorem arN(E P m ah al bh bl ch cl:Int):QK E P m ah al bh bl ch cl [F_,F_,F_,F_,T_,T_,T_,T_,T_,T_,T_,T_] 1=some (.bool true,some (.fact 0),Po E P m ah al bh bl ch cl):=by kernel_rfl
theorem GI{E P W F W' F' e e':Int}(h:aG E P)(hm:Fh E P W F W' F')(he:e=0)(he':e'=0):sV E P W F e W' F' e'=true:=by
 unfold sV
 subst he;subst he'
 simp only[if_true]
 obtain⟨rfl,hw⟩:=hm
 have hs:=dV h
 have hi:=dR h
 have hsd:ai E P=2^(E+P-1).toNat:=rfl
 have q:=LG h
 have ew: ∀Z:Int,wv (Z/18446744073709551616) (Z%18446744073709551616)=ae Z:=fun _=>rfl
 unfold UC
 rw[ew,ag]
 have dF:decide (aG E P)=true:=decide_eq_true h
 have d0:decide (True∧True)=true:=rfl
 have key: ∀Z:Int,0≤Z→Z<2*ai E P→wB (ae Z)=true∧decide (Z<2*ai E P)=true:=fun Z z0 z1=>⟨dh z0 (by omega),decide_eq_true z1⟩
 rcases hw with⟨rfl,rfl⟩|⟨S,n,rfl,rfl,s0,s1⟩
 ·obtain⟨k1,k2⟩:=key _ q.2.1 q.2.2
  rw[dF,k1,k2,if_pos q.1]
  simp
 ·have r:=Pq (E:=E) (P:=P) n s0 (by omega)
  obtain⟨k1,k2⟩:=key _ r.1 r.2.1
  have nk:=UH h (by rw[r.2.2];exact s1)
  rw[dF,k1,k2,if_neg nk.1,ahL n s0 (by omega)]
  simp
theorem adz{E P m X Y:Int}(hz:(kindOf E P X=1∨kindOf E P X=2)∧(kindOf E P Y=1∨kindOf E P Y=2)∧aK E P X+aK E P Y=0):adW E P m X Y=0∨adW E P m X Y=ai E P:=by
 obtain⟨kx,ky,hs⟩:=hz
 have n: ¬(aO E P X∨aO E P Y):=by unfold aO;omega
 unfold adW
 rw[if_neg n,if_neg (by omega),if_neg (by omega)]
 unfold OB
 rw[if_pos hs]
 generalize (if ak E P X=ak E P Y then ak E P X else decide (m=4))=b
 cases b
 ·exact .inl rfl
 ·exact .inr rfl
theorem aeq{E P W F W' F':Int}(h:aG E P)(hm:Fh E P W F W' F'):0≤W∧W<2*ai E P:=by
 have hs:=dV h
 have hi:=dR h
 have hsd:ai E P=2^(E+P-1).toNat:=rfl
 obtain⟨rfl,⟨rfl,rfl⟩|⟨S,n,rfl,rfl,s0,s1⟩⟩:=hm
 ·exact(LG h).2
 ·have r:=Pq (E:=E) (P:=P) n s0 (by omega)
  exact⟨r.1,r.2.1⟩
theorem ahM{E P m X Y:Int}(h:aG E P)(x0:0≤X)(x1:X<2*ai E P)(y0:0≤Y)(y1:Y<2*ai E P):0≤adW E P m X Y∧adW E P m X Y<2*ai E P:=by
 have hs:=dV h
 by_cases hz:(kindOf E P X=1∨kindOf E P X=2)∧(kindOf E P Y=1∨kindOf E P Y=2)∧aK E P X+aK E P Y=0
 ·rcases adz (m:=m) hz with e|e<;>rw[e]<;>omega
 ·exact aeq h (aes (m:=m) h x0 x1 y0 y1 hz)
theorem UI{E P W:Int}(h:aG E P)(hw:W=0∨W=ai E P):lm E P W=0∧vK E P W=0:=by
 have hs:=dV h
 have k:=ad7 (E:=E) (P:=P) hw (by omega)
 have r:jS E P W=0:=by unfold jS;rw[if_pos h,if_neg (by rcases hw with rfl|rfl<;>omega)]
 have e:lm E P W=0:=by
  unfold lm rdKind
  rw[if_pos r,if_pos r,if_pos (.inr k.1)]
 exact⟨e,by unfold vK sD;rw[if_pos e,if_pos r,k.2]⟩
theorem aev{E P m X Y:Int}(h:bi E P m [X,Y]=0):aG E P∧(0≤m∧m≤4)∧X<2*ai E P∧Y<2*ai E P:=by
 unfold bi at h
 split at h
 ·omega
 ·rename_i hm
  unfold vV at h
  split at h
  ·rename_i hF
   split at h
   ·rename_i hl
    simp only[List.all_cons,List.all_nil,Bool.and_true,Bool.and_eq_true,decide_eq_true_eq]at hl
    exact⟨hF,by omega,hl⟩
   ·omega
  ·omega
theorem ahN{E P m X Y:Int}(h:aG E P)(m0:0≤m)(m1:m≤4)(x1:X<2*ai E P)(y1:Y<2*ai E P):bi E P m [X,Y]=0:=by
 unfold bi vV
 rw[if_neg (by omega),if_pos h,if_pos (by simp[x1,y1])]
theorem avS{K:Int}(h:K≠0):pV K≠0:=by
 unfold pV
 rw[if_neg h]
 split<;>omega
theorem YZ{E P G Q m X:Int}(h:aG E P)(hG:aG G Q)(m0:0≤m)(m1:m≤4)(x1:X<2*ai E P):kN E P G Q m X=0:=by
 unfold kN
 rw[if_neg (by simp[h,hG];omega),if_pos x1]
theorem an7{E P m ah al bh bl ch cl:Int}(hA:wB (wv ah al)=true)(hB:wB (wv bh bl)=true):dU Tryz.prog TL 4 [.v (Lt E P m ah al bh bl ch cl)] ⟨none,.bool true⟩:=by
 have g: ∀x,Ar.v x∈ [Ar.v (Lt E P m ah al bh bl ch cl)]→ground 9 x=true:=fun x hx=>by
  simp at hx;subst hx;rfl
 have ok:=rC arJ 1
 have x0:=(jW hA).1
 have y0:=(jW hB).1
 have p4:(wB (wv ah al)&&wB (wv bh bl))=true:=by rw[hA,hB];rfl
 have p10:(wB (wv bh bl)&&wB (wv ah al))=true:=by rw[hA,hB];rfl
 have p12:(!eqR (adW E P m (wX (wv ah al)) (wX (wv bh bl))) (uJ E P m (wX (wv ah al)) (wX (wv bh bl))) (bi E P m [(wX (wv ah al)),(wX (wv bh bl))]) (adW E P m (wX (wv bh bl)) (wX (wv ah al))) (uJ E P m (wX (wv bh bl)) (wX (wv ah al))) (bi E P m [(wX (wv bh bl)),(wX (wv ah al))]))=false:=by
  rw[UJ E P m (wX (wv bh bl)) (wX (wv ah al)),(Y2 E P m (wX (wv bh bl)) (wX (wv ah al))).1,(Y2 E P m (wX (wv bh bl)) (wX (wv ah al))).2];exact UG _ _ _
 have p15:(!eqR (mlW E P m (wX (wv ah al)) (wX (wv bh bl))) (mF E P m (wX (wv ah al)) (wX (wv bh bl))) (bi E P m [(wX (wv ah al)),(wX (wv bh bl))]) (mlW E P m (wX (wv bh bl)) (wX (wv ah al))) (mF E P m (wX (wv bh bl)) (wX (wv ah al))) (bi E P m [(wX (wv bh bl)),(wX (wv ah al))]))=false:=by
  rw[UJ E P m (wX (wv bh bl)) (wX (wv ah al)),(Y3 E P m (wX (wv bh bl)) (wX (wv ah al))).1,(Y3 E P m (wX (wv bh bl)) (wX (wv ah al))).2];exact UG _ _ _
 by_cases he:(bi E P m [(wX (wv ah al)),(wX (wv bh bl))])=0
 ·have p17:((bi E P m [(wX (wv ah al)),(wX (wv bh bl))]) !=0)=false:=by rw[he];rfl
  obtain⟨hF,⟨m0,m1⟩,x1,y1⟩:=aev he
  have hs:=dV hF
  have om:=aew m0 m1
  have fx:=Y4 (E:=E) (P:=P) x0 x1
  have fy:=Y4 (E:=E) (P:=P) y0 y1
  have ex:(wX (ae (aF E P (wX (wv ah al)))))=aF E P (wX (wv ah al)):=ag _
  have ey:(wX (ae (aF E P (wX (wv bh bl)))))=aF E P (wX (wv bh bl)):=ag _
  have hFA:wB (ae (aF E P (wX (wv ah al))))=true:=dh fx.1 (by omega)
  have hFB:wB (ae (aF E P (wX (wv bh bl))))=true:=dh fy.1 (by omega)
  have h33:aG 3 3:=by decide
  have q1:(decide (aG E P)&&wB (wv ah al))=true:=by rw[hA,decide_eq_true hF];rfl
  have q2:(decide (aG E P)&&wB (wv bh bl))=true:=by rw[hB,decide_eq_true hF];rfl
  have q3:(wB (ae (aF E P (wX (wv ah al))))&&wB (wv bh bl))=true:=by rw[hFA,hB];rfl
  have q4:(wB (wv ah al)&&wB (ae (aF E P (wX (wv bh bl)))))=true:=by rw[hA,hFB];rfl
  have q5:(wB (ae (aF E P (wX (wv ah al))))&&wB (ae (aF E P (wX (wv bh bl)))))=true:=by rw[hFA,hFB];rfl
  have eK: ∀{Z U:Int},Z<2*ai E P→U<2*ai E P→bi E P (bU m) [Z,U]=0:=fun hz hu=>ahN hF om.1 om.2 hz hu
  have o1:(sV E P (mlW E P m (wX (wv ah al)) (wX (wv bh bl))) (mF E P m (wX (wv ah al)) (wX (wv bh bl))) (bi E P m [(wX (wv ah al)),(wX (wv bh bl))]) (mlW E P (bU m) (wX (ae (aF E P (wX (wv ah al))))) (wX (wv bh bl))) (mF E P (bU m) (wX (ae (aF E P (wX (wv ah al))))) (wX (wv bh bl))) (bi E P (bU m) [(wX (ae (aF E P (wX (wv ah al))))),(wX (wv bh bl))]))=true:=by rw[ex];exact GI hF (ahO hF x0 x1 y0 y1) he (eK fx.2 y1)
  have o2:(sV E P (mlW E P m (wX (wv ah al)) (wX (wv bh bl))) (mF E P m (wX (wv ah al)) (wX (wv bh bl))) (bi E P m [(wX (wv ah al)),(wX (wv bh bl))]) (mlW E P (bU m) (wX (wv ah al)) (wX (ae (aF E P (wX (wv bh bl)))))) (mF E P (bU m) (wX (wv ah al)) (wX (ae (aF E P (wX (wv bh bl)))))) (bi E P (bU m) [(wX (wv ah al)),(wX (ae (aF E P (wX (wv bh bl)))))]))=true:=by rw[ey];exact GI hF (ahP hF x0 x1 y0 y1) he (eK x1 fy.2)
  have o3:(sV E P (AZ E P m (wX (wv ah al)) (wX (wv bh bl))) (A7 E P m (wX (wv ah al)) (wX (wv bh bl))) (bi E P m [(wX (wv ah al)),(wX (wv bh bl))]) (AZ E P (bU m) (wX (ae (aF E P (wX (wv ah al))))) (wX (wv bh bl))) (A7 E P (bU m) (wX (ae (aF E P (wX (wv ah al))))) (wX (wv bh bl))) (bi E P (bU m) [(wX (ae (aF E P (wX (wv ah al))))),(wX (wv bh bl))]))=true:=by rw[ex];exact GI hF (arP hF x0 x1 y0 y1) he (eK fx.2 y1)
  have o4:(sV 3 3 (AO E P 3 3 m (wX (wv ah al))) (AP E P 3 3 m (wX (wv ah al))) (kN E P 3 3 m (wX (wv ah al))) (AO E P 3 3 (bU m) (wX (ae (aF E P (wX (wv ah al)))))) (AP E P 3 3 (bU m) (wX (ae (aF E P (wX (wv ah al)))))) (kN E P 3 3 (bU m) (wX (ae (aF E P (wX (wv ah al)))))))=true:=by rw[ex];exact GI h33 (arQ hF h33 x0 x1) (YZ hF h33 m0 m1 x1) (YZ hF h33 om.1 om.2 fx.2)
  have o5: ¬((kindOf E P (wX (wv ah al))=1∨kindOf E P (wX (wv ah al))=2)∧(kindOf E P (wX (wv bh bl))=1∨kindOf E P (wX (wv bh bl))=2)∧aK E P (wX (wv ah al))+aK E P (wX (wv bh bl))=0)→(sV E P (adW E P m (wX (wv ah al)) (wX (wv bh bl))) (uJ E P m (wX (wv ah al)) (wX (wv bh bl))) (bi E P m [(wX (wv ah al)),(wX (wv bh bl))]) (adW E P (bU m) (wX (ae (aF E P (wX (wv ah al))))) (wX (ae (aF E P (wX (wv bh bl)))))) (uJ E P (bU m) (wX (ae (aF E P (wX (wv ah al))))) (wX (ae (aF E P (wX (wv bh bl)))))) (bi E P (bU m) [(wX (ae (aF E P (wX (wv ah al))))),(wX (ae (aF E P (wX (wv bh bl)))))]))=true:=fun hz=>by rw[ex,ey];exact GI hF (aes hF x0 x1 y0 y1 hz) he (eK fx.2 fy.2)
  have eV:(wX (ae (if bi E P m [(wX (wv ah al)),(wX (wv bh bl))]=0 then adW E P m (wX (wv ah al)) (wX (wv bh bl))else 0)))=adW E P m (wX (wv ah al)) (wX (wv bh bl)):=by rw[ag,if_pos he]
  have qW:wB (ae (if bi E P m [(wX (wv ah al)),(wX (wv bh bl))]=0 then adW E P m (wX (wv ah al)) (wX (wv bh bl))else 0))=true:=by
   rw[if_pos he]
   have r:=ahM (m:=m) hF x0 x1 y0 y1
   exact dh r.1 (by omega)
  by_cases hv:lm E P (wX (ae (if bi E P m [(wX (wv ah al)),(wX (wv bh bl))]=0 then adW E P m (wX (wv ah al)) (wX (wv bh bl))else 0)))=0
  ·have q6:(lm E P (wX (ae (if bi E P m [(wX (wv ah al)),(wX (wv bh bl))]=0 then adW E P m (wX (wv ah al)) (wX (wv bh bl))else 0))) !=0)=false:=by rw[hv];rfl
   have q7:(decide ((vK E P (wX (ae (if bi E P m [(wX (wv ah al)),(wX (wv bh bl))]=0 then adW E P m (wX (wv ah al)) (wX (wv bh bl))else 0))))<0)==decide ((vK E P (wX (ae (if bi E P m [(wX (wv ah al)),(wX (wv bh bl))]=0 then adW E P m (wX (wv ah al)) (wX (wv bh bl))else 0))))<0))=true:=beq_self_eq_true _
   by_cases hk:(vK E P (wX (ae (if bi E P m [(wX (wv ah al)),(wX (wv bh bl))]=0 then adW E P m (wX (wv ah al)) (wX (wv bh bl))else 0))))=0
   ·have q8:(pV (vK E P (wX (ae (if bi E P m [(wX (wv ah al)),(wX (wv bh bl))]=0 then adW E P m (wX (wv ah al)) (wX (wv bh bl))else 0)))) !=0)=false:=by rw[hk];rfl
    exact nJ dH mX qL gTL Ei AQ ok (by simp) g (an6 E P m ah al bh bl ch cl) (by simp only[LD,yZ,Dv,Iq,List.forall_mem_cons];(repeat' apply And.intro)<;>first|exact⟨⟩|with_reducible (first|rfl|assumption)|simp) ⟨rfl,rfl⟩
   ·have q8:(pV (vK E P (wX (ae (if bi E P m [(wX (wv ah al)),(wX (wv bh bl))]=0 then adW E P m (wX (wv ah al)) (wX (wv bh bl))else 0)))) !=0)=true:=by rw[bne_iff_ne];exact avS hk
    have o6:=o5 fun hz=>hk (by rw[eV];exact(UI hF (adz hz)).2)
    exact nJ dH mX qL gTL Ei AQ ok (by simp) g (arN E P m ah al bh bl ch cl) (by simp only[Po,yZ,Dv,Iq,List.forall_mem_cons];(repeat' apply And.intro)<;>first|exact⟨⟩|with_reducible (first|rfl|assumption)|simp) ⟨rfl,rfl⟩
  ·have q6:(lm E P (wX (ae (if bi E P m [(wX (wv ah al)),(wX (wv bh bl))]=0 then adW E P m (wX (wv ah al)) (wX (wv bh bl))else 0))) !=0)=true:=by rw[bne_iff_ne];exact hv
   have o6:=o5 fun hz=>hv (by rw[eV];exact(UI hF (adz hz)).1)
   exact nJ dH mX qL gTL Ei AQ ok (by simp) g (arL E P m ah al bh bl ch cl) (by simp only[Pn,yZ,Dv,List.forall_mem_cons];(repeat' apply And.intro)<;>first|exact⟨⟩|with_reducible (first|rfl|assumption)|simp) ⟨rfl,rfl⟩
 ·have p17:((bi E P m [(wX (wv ah al)),(wX (wv bh bl))]) !=0)=true:=by rw[bne_iff_ne];exact he
  exact nJ dH mX qL gTL Ei AQ ok (by simp) g (arK E P m ah al bh bl ch cl) (by simp only[Pm,yZ,List.forall_mem_cons];(repeat' apply And.intro)<;>first|exact⟨⟩|with_reducible (first|rfl|assumption)|simp) ⟨rfl,rfl⟩
end Go.Proofs.YtnapiakfbihnjaaGreatDoor
namespace Go.Proofs.YtnapiakfbihnjaaGreatDoor.floatsMirrors
open Go.ChangeShapes Go.WideShapes Go.ChangeAt Go.RowKit Go.Canon Go.Proofs.Tryz
theorem own:ownKnob prog.godebug=none:=by kernel_rfl
theorem g0:prog.globalNamed "vernier/floats.otherSign" =some 0:=by kernel_rfl
theorem g1:prog.globalNamed "math/bits.deBruijn64tab" =some 1:=by kernel_rfl
theorem g9:prog.globalNamed "internal/strconv.uint64pow10" =some 9:=by kernel_rfl
theorem t0:(prog.globals[0]?).map (·.type)=some 202:=by kernel_rfl
theorem t1:(prog.globals[1]?).map (·.type)=some 265:=by kernel_rfl
theorem t9:(prog.globals[9]?).map (·.type)=some 294:=by kernel_rfl
theorem size:prog.globals.size=11:=by kernel_rfl
def arR:List Int:=[0,1,56,2,57,49,28,3,61,58,42,50,38,29,17,4,62,47,59,36,45,43,51,22,53,39,33,30,24,18,12,5,63,55,48,27,60,41,37,16,46,35,44,21,52,32,23,11,54,26,40,15,34,20,31,10,25,14,19,9,13,8,7,6]
def arS:List Int:=[1,10,100,1000,10000,100000,1000000,10000000,100000000,1000000000,10000000000,100000000000,1000000000000,10000000000000,100000000000000,1000000000000000,10000000000000000,100000000000000000,1000000000000000000,10000000000000000000]
theorem z64:(arR.map fun z=>Value.int .u8 z)=Lib.deBruijn64tab.map fun z:Nat=>Value.int .u8 z:=by kernel_rfl
theorem z10:(arS.map fun z=>Value.int .u64 z)=QD:=by kernel_rfl
theorem zOs:(([0,1,2,4,3]:List Int).map fun z=>Value.int .i64 z)=aao:=by kernel_rfl
theorem env{W:World}(h:laidMetH prog Rows.floatsMirrorsRow.laid W):RV TL W:=by
 rw[MakeChecks.laidMetH_plain _ _ _ (by kernel_rfl)]at h
 have m0:("vernier/floats.otherSign",Lib.tabData (H:=Unit) .i64 [0,1,2,4,3])∈Rows.floatsMirrorsRow.laid:=List.mem_of_getElem? (i:=6) rfl
 have m1:("math/bits.deBruijn64tab",Lib.tabData (H:=Unit) .u8 arR)∈Rows.floatsMirrorsRow.laid:=List.mem_of_getElem? (i:=1) rfl
 have m9:("internal/strconv.uint64pow10",Lib.tabData (H:=Unit) .u64 arS)∈Rows.floatsMirrorsRow.laid:=List.mem_of_getElem? (i:=2) rfl
 obtain⟨e0,f0,h0⟩:=CJ m0 g0 t0 underlying202 underlying3 (by kernel_rfl) (by kernel_rfl) h
 obtain⟨e1,f1,h1⟩:=CJ m1 g1 t1 underlying265 underlying5 (by kernel_rfl) (by kernel_rfl) h
 obtain⟨e9,f9,h9⟩:=CJ m9 g9 t9 underlying294 underlying24 (by kernel_rfl) (by kernel_rfl) h
 rw[z64]at h1
 rw[z10]at h9
 rw[zOs]at h0
 refine⟨⟨_,h1,_,_,_,rfl,fun j hj=>?_⟩,fun p hp=>?_⟩
 ·rw[List.getElem?_toArray,List.getElem?_map,List.getElem?_eq_getElem hj,List.getD_eq_getElem?_getD,List.getElem?_eq_getElem hj];rfl
 ·rcases List.mem_cons.1 hp with rfl|hp
  ·exact⟨_,_,_,h0,fun i v hv=>by rw[List.getElem?_toArray];exact hv⟩
  ·rcases List.mem_cons.1 hp with rfl|hp
   ·exact⟨_,_,_,h9,fun i v hv=>by rw[List.getElem?_toArray];exact hv⟩
   ·cases hp
theorem call{W:World}(h:laidMetH prog Rows.floatsMirrorsRow.laid W)(hs:W.ShapedOpen prog){E P m ah al bh bl ch cl:Int}(hA:wB (wv ah al)=true)(hB:wB (wv bh bl)=true):
 Calls prog 4 #[Lt E P m ah al bh bl ch cl] W fun e w1=>e=.returned (.bool true)∧Below W.heap.size W w1:=by
 have hsz:prog.globals.size≤W.heap.size:=by
  have h10:(((begin prog (fun _ _=>0) default).world.heap[10]?).bind Obj.row?).isSome=true:=by kernel_rfl
  obtain⟨⟨z,t⟩,hz⟩:=Option.isSome_iff_exists.1 h10
  obtain⟨cs,hc,_⟩:=hs.1 10 z t (by rw[size];decide) hz
  obtain⟨hlt,_⟩:=Array.getElem?_eq_some_iff.1 hc
  rw[size];omega
 refine(an7 hA hB W hsz (env h) #[Lt E P m ah al bh bl ch cl] ⟨rfl,trivial⟩).mono fun e w1 ⟨v',h1,h2,h3⟩=>⟨?_,h3⟩
 have h2:v'=.bool true:=h2
 rw[h1,h2]
theorem contract(H:Type)(enc:TypeId×Value→H)(W:World)(args:Array Value)(ds gs:List (DataW H))(before:List MemPlace)
 (hW:DataW.Whole enc prog Tryz.f4.params.toList Rows.floatsMirrorsSpec.vars false W args.toList ds gs before) (hL:laidMetH prog Rows.floatsMirrorsRow.laid W) (hs:W.ShapedOpen prog):
 Calls prog 4 args W fun e W'=> ∃v,e=.returned v∧Rows.floatsMirrorsSpec.post enc prog Tryz.f4 false true false false W args v W':=by
 have hW':=hW
 obtain⟨p,q,hA0,hV,rfl,hfz,hnd⟩:=hW
 have hA:DataW.TrodAll enc prog W 0 (fun _=>true) true Tryz.f4.params.toList args.toList ds p:=hA0
 rw[Tryz.params4]at hA
 obtain⟨v,d,rfl,rfl,hd⟩:=trodAll_one hA
 obtain⟨rfl,rfl⟩:=trodVars_none hV
 clear hA0 hA
 obtain⟨E,P,m,ah,al,bh,bl,ch,cl,rfl,rfl,rfl,hi,s1,s2,s3,s4,s5,s6⟩:=an8 hd
 refine(call hL hs (ajV s1 s2) (ajV s3 s4)).mono fun e W' ⟨he,hb⟩=>?_
 subst he
 refine⟨_,rfl,_,_,_,[],[],[],hW',?_,?_,rfl,hb.frame _,fun h=>by cases h⟩
 ·exact trodAll_cons_mk (shut_bool underlying4 _) trodAll_mk0
 ·rw[Tryz.params4];exact trodAll_mk1 (an9 hi s1 s2 s3 s4 s5 s6)
theorem lifted(os:Os)(started:os.Started)(H:Type)(enc:TypeId×Value→H)(F:Stop.Interp):
 ReturnsInHanded {} Tryz.checked os 4 .any ((OpenSpec.ofChange Rows.floatsMirrorsSpec).preRow enc prog Tryz.f4 Rows.floatsMirrorsRow.domain false Rows.floatsMirrorsRow.laid) (((OpenSpec.ofChange Rows.floatsMirrorsSpec).at F).post enc prog Tryz.f4 false true false false):=by
 obtain⟨places,hx⟩:=reads os enc
 refine returnsInHanded_of_row (C:=Tryz.checked) (s:=OpenSpec.ofChange Rows.floatsMirrorsSpec) own started (by kernel_rfl) func4
  (witness_row_atRef (enc:=enc) (C:=Tryz.checked) false (laidWorld os) #[arg0] rfl (by kernel_rfl) (by kernel_rfl) (by kernel_rfl)
   (OpenSpec.preRow_of_cond 8 hx (by kernel_rfl) (fun k hk=>by cases hk) (by kernel_rfl) (laid_met os))) ?_
 intro W base args ds gs before _ hW _ _ _ hL hs _
 exact contract H enc W args ds gs before hW hL hs
end Go.Proofs.YtnapiakfbihnjaaGreatDoor.floatsMirrors
