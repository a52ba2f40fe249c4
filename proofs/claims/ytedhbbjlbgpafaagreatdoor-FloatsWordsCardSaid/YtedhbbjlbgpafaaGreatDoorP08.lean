/-
  awake: in every world that holds the listed tables it returns true. No conditions.
-/
import Derived.Test.YtedhbbjlbgpafaaGreatDoorP07
set_option linter.unusedVariables false
set_option linter.unusedSimpArgs false
namespace Go.Proofs.YtedhbbjlbgpafaaGreatDoor
open Go.RowKit Go.Canon
attribute [local instance] noGhosts
theorem roState_pre{P:Program}{w:World}{l:List (Nat×List Value)}{n:Nat}(h40: ∀p∈l,p.1<P.globals.size∧p.1+1<2^40∧p.2.all (ground 9)=true)
 (h: ∀p∈l,∃c' e f,w.heap[p.1]?=some (.cells c' e f)∧ ∀(i:Nat) (v:Value),p.2[i]?=some v→c'[i]?=some v): ∀b,b<(roState l n).n→At (base P) w b ((roState l n).t.get b):=by
 intro b _
 rcases roTree_get l .leaf b (fun p hp=>(h40 p hp).2.1)with h1|⟨p,h1,h2,h3⟩
 ·show At (base P) w b ((roTree l .leaf).get b)
  rw[h1,Tree.get_leaf];exact .none
 ·show At (base P) w b ((roTree l .leaf).get b)
  rw[h3]
  obtain⟨c',e,f,hh,hp⟩:=h p h1
  subst h2
  obtain⟨k1,k2,k3⟩:=h40 p h1
  refine .ro p.2 e f p.1 c' (by unfold base;rw[if_pos k1]) hh fun i v hv=>⟨v,hp i v hv,?_⟩
  rw[List.all_eq_true]at k3
  exact ground_rel 9 v (k3 v (List.mem_of_getElem? hv)) _
theorem rowsA_ok:(rowsA.all fun p=>decide (p.1<Tryz.prog.globals.size)&&(decide (p.1+1<2^40)&&p.2.all (ground 9)))=true:=by kernel_rfl
theorem size11:Tryz.prog.globals.size≤11:=of_decide_eq_true (by kernel_rfl)
theorem awake_calls(w:World)(hw:Tryz.prog.globals.size≤w.heap.size)(h: ∀p∈rowsA,∃c' e f,w.heap[p.1]?=some (.cells c' e f)∧ ∀(i:Nat) (v:Value),p.2[i]?=some v→c'[i]?=some v):
 Calls Tryz.prog 21 #[] w fun e w1=>e=.returned (.bool true)∧Below w.heap.size w w1:=by
 refine closed_ok (ng_of (by kernel_rfl)) (by kernel_rfl) awake_run size11 w hw (roState_pre (fun p hp=>?_) h)
 have h2:=rowsA_ok
 rw[List.all_eq_true]at h2
 have h3:=h2 p hp
 simp only[Bool.and_eq_true,decide_eq_true_eq]at h3
 exact h3
end Go.Proofs.YtedhbbjlbgpafaaGreatDoor
