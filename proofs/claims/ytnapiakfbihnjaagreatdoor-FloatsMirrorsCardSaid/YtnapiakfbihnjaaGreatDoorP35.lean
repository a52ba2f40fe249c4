/-
  The text of a number, as an answer of a call: some text.
-/
import Derived.Test.YtnapiakfbihnjaaGreatDoorP34
import Derived.Test.YtnapiakfbihnjaaGreatDoorP31
set_option linter.unusedVariables false
set_option linter.unusedSimpArgs false
namespace Go.Proofs.YtnapiakfbihnjaaGreatDoor
open Go.RowKit Go.Shelf Go.Canon
theorem apR(i:Nat):(2:Int)^(63*2^i)≤bJ i:=by
 induction i with
 |zero=>rw[Cj];decide
 |succ i ih=>
  rw[xZ,Nat.pow_succ,←Nat.mul_assoc,Nat.mul_two,Int.pow_add]
  have h0:=au (63*2^i)
  have h1:=pO i
  exact Int.mul_le_mul ih ih (by omega) (by omega)
theorem awC{w:World}(h:RV TL w):uS w:=fun i hi=>by
 obtain⟨c,e,f,h1,h2⟩:=h.2 (9,QD) (by unfold TL;simp)
 have h3:=h2 i (.int .u64 ((10^i:Nat):Int)) (by
  match i,hi with
  |0,_=>rfl
  |1,_=>rfl
  |2,_=>rfl
  |3,_=>rfl
  |4,_=>rfl
  |5,_=>rfl
  |6,_=>rfl
  |7,_=>rfl
  |8,_=>rfl
  |9,_=>rfl
  |10,_=>rfl
  |11,_=>rfl
  |12,_=>rfl
  |13,_=>rfl
  |14,_=>rfl
  |15,_=>rfl
  |16,_=>rfl
  |17,_=>rfl
  |18,_=>rfl
  |19,_=>rfl
  |_+20,h=>omega)
 unfold World.cell?
 simp[h1,h3]
def aqp:Value:=.complex .f64 0 0
def ai9:bP:=⟨some (.s []),aqp⟩
theorem apS{w:World}(b:ByteArray):jA w ai9 (.string b):=
 ⟨#[.string b],ajN.2 ⟨b,rfl,trivial⟩,fun ρ n hn=>.tok _ 0 _ _ hn rfl rfl⟩
def inT(K k:Int):Prop:=(K.natAbs:Int)<2^3000∧ -3000≤k∧k≤0
instance (K k:Int):Decidable (inT K k):=by unfold inT;infer_instance
theorem aja{K k:Int}(h:inT K k):dU Tryz.prog TL 57 [.n K k] ai9:=fun w _ he args' ha=>by
 obtain⟨v,hl,s,t,e,h1,h2⟩:=yK ha
 have hargs:args'= #[v]:=by
  have:=congrArg List.toArray hl
  simpa using this
 subst hargs
 obtain⟨hK,k0,k1⟩:=h
 have hu:(2:Int)^3000<bJ 6:=by
  have h1:=apR 6
  have h2:(2:Int)^3000*2≤2^(63*2^6):=by rw[←Int.pow_succ];exact DR (by omega)
  have h3:=au 3000
  omega
 have key:0≤t∧ -3000≤e∧e≤1000000∧t*2^e.toNat<bJ 6∧1*2^(-e).toNat<bJ 6:=by
  rcases h2 with⟨rfl,rfl,rfl,rfl⟩|⟨ho,hp,j,rfl,rfl⟩
  ·refine⟨by omega,by omega,by omega,?_,?_⟩
   ·rw[Int.zero_mul];exact pO 6
   ·have:=au 3000
    simp
    omega
  ·have hk:((sg s t*2^j).natAbs:Int)=t*2^j:=by
    have hq:=Int.mul_pos hp (au j)
    cases s
    ·show((t*2^j).natAbs:Int)=_;omega
    ·show(((-t)*2^j).natAbs:Int)=_
     rw[Int.neg_mul];omega
   rw[hk]at hK
   have hj:=au j
   have h3:(2:Int)^j≤t*2^j:=by
    have:=Int.mul_le_mul_of_nonneg_right (show 1≤t by omega) (Int.le_of_lt hj)
    omega
   have hj3:j<3000:=by
    apply Classical.byContradiction
    intro hc
    have:=DR (show 3000≤j by omega)
    omega
   have h4:t*2^(k+j).toNat≤t*2^j:=Int.mul_le_mul_of_nonneg_left (DR (by omega)) (by omega)
   have h5:=DR (show(-(k+j)).toNat≤3000 by omega)
   exact⟨by omega,by omega,by omega,by omega,by omega⟩
 obtain⟨a1,a2,a3,a4,a5⟩:=key
 refine(ajb w (awC he) v s t 1 e h1 a1 (by omega) (by omega) a3 a4 a5).mono ?_
 rintro en w1 ⟨rfl,hb⟩
 exact⟨_,rfl,apS _,hb⟩
def textS(xs:List Ar):Option bP:=match xs with
 |[.n _ _]=>some ai9
 |_=>none
def am9(xs:List Ar):Bool:=match xs with
 |[.n K k]=>decide (inT K k)
 |_=>false
def ajs:CF→St→Option (Value×St):=bF 57 (aZ TL am9 textS)
theorem ag6:aN Tryz.prog ajs:=aP dH gTL QE fun xs R h hp=>by
 unfold textS at h
 split at h
 ·injection h with h
  subst h
  unfold am9 at hp
  exact aja (of_decide_eq_true hp)
 ·cases h
end Go.Proofs.YtnapiakfbihnjaaGreatDoor
