/-
  Numbers with a divisor: contracts as answers of calls. The integer next to a quotient, and what is left (no program there).
-/
import Derived.Test.YtnapiakfbihnjaaGreatDoorP33
import Derived.Test.YtnapiakfbihnjaaGreatDoorP21
set_option linter.unusedVariables false
set_option linter.unusedSimpArgs false
namespace Go.Proofs.YtnapiakfbihnjaaGreatDoor
open Go.RowKit Go.Shelf Go.Canon Tryz
def su(A B:Int):Int:=if B<0 then-A else A
def zN(B:Int):Int:=B.natAbs
theorem LU{w:World}{K D k:Int}{l:List Value}(h:kL w [.q K D k] l): ∃v,l=[v]∧Qn w v K D k:=by
 obtain⟨v,vs,rfl,h1,h2⟩:=mD h
 rw[uK h2]
 exact⟨v,rfl,ad4 h1⟩
theorem aoj{K k L l:Int}(h1:fV K 1 k)(h2:fV L 1 l):dU prog TT 94 [.n K k,.n L l] (lS (K*L) (k+l)):=iJ fun w hE x ha=>by
 obtain⟨v,u,rfl,a,b⟩:=Ut ha
 refine(Va w hE v u K 1 k L 1 l a.qn b.qn h1 h2).mono ?_
 rintro en w1 ⟨v',rfl,h1,hb⟩
 exact⟨_,rfl,uw h1.dn,hb⟩
theorem aom{K k L l:Int}(h1:fV K 1 k)(h2:fV L 1 l)(h3:L≠0):dU prog TT 91 [.n K k,.n L l] (aa7 (su K L) (zN L) (k-l) 0):=iJ fun w hE x ha=>by
 obtain⟨v,u,rfl,a,b⟩:=Ut ha
 refine(aon w hE v u K k L l a b h1 h2 h3).mono ?_
 rintro en w1 ⟨v',rfl,h1,hb⟩
 exact⟨_,rfl,ahy h1,hb⟩
theorem abA(K D k:Int):dU prog TT 160 [.q K D k] ⟨none,.bool (CP K D k)⟩:=iJ fun w hE l ha=>by
 obtain⟨v,rfl,s,t,b,e,h1,h2⟩:=LU ha
 refine(uu w v s t b e h1 (by have:=h2.bounds;omega)).mono ?_
 rintro en w1 ⟨rfl,hb⟩
 exact⟨_,rfl,by rw[h2.isInt];rfl,hb⟩
theorem abB{K D k:Int}(h:fV K D k):dU prog TT 158 [.q K D k] (lS (kZ K D k) 0):=iJ fun w hE l ha=>by
 obtain⟨v,rfl,a⟩:=LU ha
 refine(abC w hE v K D k a h).mono ?_
 rintro en w1 ⟨v',rfl,h1,hb⟩
 exact⟨_,rfl,uw h1,hb⟩
def aAR(xs:List Ar):Option bP:=match xs with
 |[.v (.int .i64 n)]=>some (lS n 0:bP)
 |_=>none
def mulS(xs:List Ar):Option bP:=match xs with
 |[.n K k,.n L l]=>some (lS (K*L) (k+l):bP)
 |_=>none
def asY(xs:List Ar):Bool:=match xs with
 |[.n K k,.n L l]=>decide (fV K 1 k)&&decide (fV L 1 l)
 |_=>false
def arY:CF→St→Option (Value×St):=bF 94 (aZ TT asY mulS)
theorem aoe:aN prog arY:=aP dH gTT jv fun xs R h hp=>by
 unfold mulS at h
 split at h
 ·injection h with h
  subst h
  unfold asY at hp;rw[Bool.and_eq_true]at hp;exact aoj (of_decide_eq_true hp.1) (of_decide_eq_true hp.2)
 ·cases h
def asZ(xs:List Ar):Option bP:=match xs with
 |[.n K k,.n L l]=>some (aa7 (su K L) (zN L) (k-l) 0:bP)
 |_=>none
def as1(xs:List Ar):Bool:=match xs with
 |[.n K k,.n L l]=>decide (fV K 1 k)&&(decide (fV L 1 l)&&decide (L≠0))
 |_=>false
def aqK:CF→St→Option (Value×St):=bF 91 (aZ TT as1 asZ)
theorem anN:aN prog aqK:=aP dH gTT jv fun xs R h hp=>by
 unfold asZ at h
 split at h
 ·injection h with h
  subst h
  unfold as1 at hp;rw[Bool.and_eq_true,Bool.and_eq_true]at hp;exact aom (of_decide_eq_true hp.1) (of_decide_eq_true hp.2.1) (of_decide_eq_true hp.2.2)
 ·cases h
def Zh(xs:List Ar):Option bP:=match xs with
 |[.q K D k]=>some (⟨none,.bool (CP K D k)⟩:bP)
 |_=>none
def aoo(xs:List Ar):Bool:=match xs with
 |[.q K D k]=>true
 |_=>false
def Zi:CF→St→Option (Value×St):=bF 160 (aZ TT aoo Zh)
theorem abD:aN prog Zi:=aP dH gTT jv fun xs R h hp=>by
 unfold Zh at h
 split at h
 ·injection h with h
  subst h
  exact abA _ _ _
 ·cases h
def Zj(xs:List Ar):Option bP:=match xs with
 |[.q K D k]=>some (lS (kZ K D k) 0:bP)
 |_=>none
def Zk(xs:List Ar):Bool:=match xs with
 |[.q K D k]=>decide (fV K D k)
 |_=>false
def Zl:CF→St→Option (Value×St):=bF 158 (aZ TT Zk Zj)
theorem abE:aN prog Zl:=aP dH gTT jv fun xs R h hp=>by
 unfold Zj at h
 split at h
 ·injection h with h
  subst h
  unfold Zk at hp;exact abB (of_decide_eq_true hp)
 ·cases h
end Go.Proofs.YtnapiakfbihnjaaGreatDoor
