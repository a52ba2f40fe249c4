/-
  The text of a number, as an answer of a call: some text.
-/
import Derived.Test.YtedhbbjlbgpafaaGreatDoorP30
import Derived.Test.YtedhbbjlbgpafaaGreatDoorP29
set_option linter.unusedVariables false
set_option linter.unusedSimpArgs false
namespace Go.Proofs.YtedhbbjlbgpafaaGreatDoor
open Go.RowKit Go.Shelf Go.Canon
theorem unit_ge(i:Nat):(2:Int)^(63*2^i)≤unitOf i:=by
 induction i with
 |zero=>rw[unit_zero];decide
 |succ i ih=>
  rw[unit_succ,Nat.pow_succ,←Nat.mul_assoc,Nat.mul_two,Int.pow_add]
  have h0:=p2pos (63*2^i)
  have h1:=unit_pos i
  exact Int.mul_le_mul ih ih (by omega) (by omega)
theorem env10{w:World}(h:EnvT TL w):Pow10 w:=fun i hi=>by
 obtain⟨c,e,f,h1,h2⟩:=h.2 (9,tab10) (by unfold TL;simp)
 have h3:=h2 i (.int .u64 ((10^i:Nat):Int)) (by
  match i,hi with
  |0,_=>rfl
  |1,_=>rfl
  |2,_=>rfl
  |3,_=>rfl
  |4,_=>rfl
  |5,_=>rfl
  |6,_=>rfl
  |7,_=>rfl
  |8,_=>rfl
  |9,_=>rfl
  |10,_=>rfl
  |11,_=>rfl
  |12,_=>rfl
  |13,_=>rfl
  |14,_=>rfl
  |15,_=>rfl
  |16,_=>rfl
  |17,_=>rfl
  |18,_=>rfl
  |19,_=>rfl
  |_+20,h=>omega)
 unfold World.cell?
 simp[h1,h3]
def tokS:Value:=.complex .f64 0 0
def inT(K k:Int):Prop:=(K.natAbs:Int)<2^3000∧ -3000≤k∧k≤0
instance (K k:Int):Decidable (inT K k):=by unfold inT;infer_instance
def textP(xs:List Ar):Bool:=match xs with
 |[.n K k]=>decide (inT K k)
 |_=>false
end Go.Proofs.YtedhbbjlbgpafaaGreatDoor
