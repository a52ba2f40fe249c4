/-
  The reference's Flip: its contract as an answer of a call.
-/
import Derived.Test.YtnapiakfbihnjaaGreatDoorP38
import Derived.Test.YtnapiakfbihnjaaGreatDoorP21
set_option linter.unusedVariables false
set_option linter.unusedSimpArgs false
namespace Go.Proofs.YtnapiakfbihnjaaGreatDoor
open Go.RowKit Go.Shelf Go.Canon
def aF(E P X:Int):Int:=if ai E P≤X then X-ai E P else X+ai E P
theorem ahl{E P:Int}{a:Value}(h:aG E P)(ha:wB a=true):dU Tryz.prog TT 22 [.v (.agg #[.int .i64 E,.int .i64 P]),.v a] ⟨none,ae (aF E P (wX a))⟩:=yJ fun w hE l hl=>by
 obtain⟨h1,l1,rfl,w1⟩:=pg ha
 rw[xI hl]
 obtain⟨a0,a1,a2,a3,a4⟩:=w1
 obtain⟨f1,f2,f3,f4,f5⟩:=h
 have hk:E+P-1=((E+P-1).toNat:Int):=by omega
 have k1:(E+P-1).toNat≤127:=by omega
 refine(R.flip_any w E P h1 l1 (E+P-1).toNat hk k1 (by omega) (by omega) a0 a1 a2 a3).mono ?_
 rintro e w' ⟨rfl,hb⟩
 rw[a4]
 have hr:=R.I5 k1 (n:=h1*18446744073709551616+l1) (by omega) (by omega)
 have e1:aF E P (h1*18446744073709551616+l1)=R.lL (E+P-1).toNat (h1*18446744073709551616+l1):=rfl
 rw[e1]
 generalize R.lL (E+P-1).toNat (h1*18446744073709551616+l1)=X at*
 exact⟨_,_,rfl,⟨by omega,by omega,by omega,by omega,by omega⟩,hb⟩
def ajA(xs:List Ar):Option bP:=match xs with
 |[.v a,.v b]=>match fmt2 a with
  |some (E,P)=>some (⟨none,ae (aF E P (wX b))⟩:bP)
  |none=>none
 |_=>none
def ajB(xs:List Ar):Bool:=match xs with
 |[.v a,.v b]=>match fmt2 a with
  |some (E,P)=>decide (aG E P)&&wB b
  |none=>false
 |_=>false
def aaX:CF→St→Option (Value×St):=bF 22 (aZ TT ajB ajA)
theorem TZ:aN Tryz.prog aaX:=aP dH gTT jv fun xs R h hp=>by
 unfold ajA at h
 split at h
 ·split at h
  ·rename_i hm
   injection h with h
   subst h
   unfold ajB at hp
   simp only[hm]at hp
   rw[Bool.and_eq_true]at hp
   rw[rH hm]
   exact ahl (of_decide_eq_true hp.1) hp.2
  ·cases h
 ·cases h
instance (K D:Int):Decidable (R.inR K D):=by unfold R.inR;infer_instance
instance (n d L:Int):Decidable (R.ge2 n d L):=by unfold R.ge2;infer_instance
def Fq(n d:Int):Int:=if R.ge2 n d ((aQ n:Int)-aQ d)then(aQ n:Int)-aQ d else(aQ n:Int)-aQ d-1
theorem JQ{n d:Int}(n0:0<n)(d0:0<d):R.ge2 n d (Fq n d)∧ ¬R.ge2 n d (Fq n d+1):=by
 obtain⟨a1,a2,a3⟩:=eF n0
 obtain⟨b1,b2,b3⟩:=eF d0
 have low:=R.ao4 a1 a3 d0 b2
 have high:=R.aii n0 a2 b3 b1
 unfold Fq
 split
 ·rename_i h;exact⟨h,high⟩
 ·rename_i h;exact⟨low,by rwa [show(aQ n:Int)-aQ d-1+1=(aQ n:Int)-aQ d by omega]⟩
theorem aue{n d L:Int}(n0:0<n)(d0:0<d)(h1:R.ge2 n d L)(h2: ¬R.ge2 n d (L+1)):Fq n d=L:=by
 obtain⟨h3,h4⟩:=JQ n0 d0
 exact R.aik (by omega) d0 h3 h4 h1 h2
end Go.Proofs.YtnapiakfbihnjaaGreatDoor
