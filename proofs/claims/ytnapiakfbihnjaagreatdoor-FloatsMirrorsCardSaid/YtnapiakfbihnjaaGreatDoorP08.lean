/-
  awake: in every world that holds the listed tables it returns true. No conditions.
-/
import Derived.Test.YtnapiakfbihnjaaGreatDoorP07
set_option linter.unusedVariables false
set_option linter.unusedSimpArgs false
namespace Go.Proofs.YtnapiakfbihnjaaGreatDoor
open Go.RowKit Go.Canon
attribute [local instance] QQ
theorem Xe{P:Program}{w:World}{l:List (Nat×List Value)}{n:Nat}(Ap: ∀p∈l,p.1<P.globals.size∧p.1+1<2^40∧p.2.all (ground 9)=true)
 (h: ∀p∈l,∃c' e f,w.heap[p.1]?=some (.cells c' e f)∧ ∀(i:Nat) (v:Value),p.2[i]?=some v→c'[i]?=some v): ∀b,b<(Nq l n).n→At (base P) w b ((Nq l n).t.get b):=by
 intro b _
 rcases yH l .leaf b (fun p hp=>(Ap p hp).2.1)with h1|⟨p,h1,h2,h3⟩
 ·show At (base P) w b ((xB l .leaf).get b)
  rw[h1,Tree.zy];exact .none
 ·show At (base P) w b ((xB l .leaf).get b)
  rw[h3]
  obtain⟨c',e,f,hh,hp⟩:=h p h1
  subst h2
  obtain⟨k1,k2,k3⟩:=Ap p h1
  refine .ro p.2 e f p.1 c' (by unfold base;rw[if_pos k1]) hh fun i v hv=>⟨v,hp i v hv,?_⟩
  rw[List.all_eq_true]at k3
  exact jQ 9 v (k3 v (List.mem_of_getElem? hv)) _
theorem agY:(aam.all fun p=>decide (p.1<Tryz.prog.globals.size)&&(decide (p.1+1<2^40)&&p.2.all (ground 9)))=true:=by kernel_rfl
theorem aqh:Tryz.prog.globals.size≤11:=of_decide_eq_true (by kernel_rfl)
theorem Xd(w:World)(hw:Tryz.prog.globals.size≤w.heap.size)(h: ∀p∈aam,∃c' e f,w.heap[p.1]?=some (.cells c' e f)∧ ∀(i:Nat) (v:Value),p.2[i]?=some v→c'[i]?=some v):
 Calls Tryz.prog 20 #[] w fun e w1=>e=.returned (.bool true)∧Below w.heap.size w w1:=by
 refine ac3 (ajm (by kernel_rfl)) (by kernel_rfl) adl aqh w hw (Xe (fun p hp=>?_) h)
 have h2:=agY
 rw[List.all_eq_true]at h2
 have h3:=h2 p hp
 simp only[Bool.and_eq_true,decide_eq_true_eq]at h3
 exact h3
end Go.Proofs.YtnapiakfbihnjaaGreatDoor
