/-
  Text and Parse as answers of calls: the text of the number, and the number of its text.
-/
import Derived.Test.YtedhbbjlbgpafaaGreatDoorP35
import Derived.Test.YtedhbbjlbgpafaaGreatDoorP36
set_option linter.unusedVariables false
set_option linter.unusedSimpArgs false
namespace Go.Proofs.YtedhbbjlbgpafaaGreatDoor
open Go.RowKit Go.Shelf Go.Canon
theorem inT.flds{K k:Int}(h:inT K k){s:Bool}{t e:Int}(h2:Dr s t e K k):0≤t∧ -3000≤e∧e≤1000000∧t*2^e.toNat<2^3000∧(-e).toNat≤3000:=by
 obtain⟨hK,k0,k1⟩:=h
 rcases h2 with⟨rfl,rfl,rfl,rfl⟩|⟨ho,hp,j,rfl,rfl⟩
 ·refine⟨by omega,by omega,by omega,?_,by omega⟩
  rw[Int.zero_mul];exact Int.lt_of_lt_of_le (by omega) (p2pos 3000)
 ·have hk:((sg s t*2^j).natAbs:Int)=t*2^j:=by
   have hq:=Int.mul_pos hp (p2pos j)
   cases s
   ·show((t*2^j).natAbs:Int)=_;omega
   ·show(((-t)*2^j).natAbs:Int)=_
    rw[Int.neg_mul];omega
  rw[hk]at hK
  have hj:=p2pos j
  have h3:(2:Int)^j≤t*2^j:=by
   have:=Int.mul_le_mul_of_nonneg_right (show 1≤t by omega) (Int.le_of_lt hj)
   omega
  have hj3:j<3000:=by
   apply Classical.byContradiction
   intro hc
   have:=two_le (show 3000≤j by omega)
   omega
  have h4:t*2^(k+j).toNat≤t*2^j:=Int.mul_le_mul_of_nonneg_left (two_le (by omega)) (by omega)
  exact⟨by omega,by omega,by omega,by omega,by omega⟩
theorem ten_gen{c d:Nat}(h:c≤3*d):(2:Nat)^c≤10^d:=
 Nat.le_trans (Nat.pow_le_pow_right (by omega) h) (by rw[Nat.pow_mul];exact Nat.pow_le_pow_left (by decide) _)
theorem ten_lt{c d:Nat}(h:c≤3*d):(2:Nat)^c<10^(d+1):=by
 have h1:=ten_gen h
 have h2:0<10^d:=Nat.pow_pos (by omega)
 rw[Nat.pow_succ]
 omega
theorem ten_int{n c d:Nat}(h:(n:Int)<2^c)(h1:c≤3*d):n<10^(d+1):=by
 have h2:((2^c:Nat):Int)=2^c:=by simp
 rw[←h2]at h
 exact Nat.lt_trans (Int.ofNat_lt.1 h) (ten_lt h1)
theorem ten_big{n:Nat}(h:(n:Int)<2^3000):n<10^(1999+1):=ten_int (c:=3000) (d:=1999) h (by omega)
theorem ten_two{m:Nat}(h:m≤3000):2^m<10^(1999+1):=ten_lt (c:=m) (d:=1999) (by omega)
def resT(K k:Int):Res:=⟨some (.s [K,k]),tokS⟩
theorem resT_is{w:World}{K k:Int}{s:Bool}{t e:Int}(h:Dr s t e K k):ResIs w (resT K k) (.string ⟨(txS s t 1 e).toArray⟩):=
 ⟨#[.string _],is_st.2 ⟨_,rfl,s,t,e,h,rfl⟩,fun ρ n hn=>.tok _ 0 _ _ hn rfl rfl⟩
theorem textT_con{K k:Int}(h:inT K k):Con Tryz.prog TL 64 [.n K k] (resT K k):=fun w _ he args' ha=>by
 obtain⟨v,hl,s,t,e,h1,h2⟩:=ars_n ha
 have hargs:args'= #[v]:=by
  have:=congrArg List.toArray hl
  simpa using this
 subst hargs
 obtain⟨a1,a2,a3,a4,a5⟩:=h.flds h2
 have hu:(2:Int)^3000<unitOf 6:=by
  have h1:=unit_ge 6
  have h2:(2:Int)^3000*2≤2^(63*2^6):=by rw[←Int.pow_succ];exact two_le (by omega)
  have h3:=p2pos 3000
  omega
 have h5:=two_le a5
 refine(text_any w (env10 he) v s t 1 e h1 a1 (by omega) (by omega) a3 (by omega) (by omega)).mono ?_
 rintro en w1 ⟨rfl,hb⟩
 exact⟨_,rfl,resT_is h2,hb⟩
theorem parse_con{K k:Int}(h:inT K k):Con Tryz.prog TL 67 [.s [K,k]] (resNE K k 0):=fun w _ he args' ha=>by
 obtain⟨v,vs,hl,h1,h2⟩:=areArs_cons ha
 have h1:Ghosts.is w 3 [K,k] #[v]:=h1
 obtain⟨b,hb,s,t,e,hd,rfl⟩:=is_st.1 h1
 obtain rfl:v=.string _:=by simpa using hb
 have hargs:args'= #[.string ⟨(txS s t 1 e).toArray⟩]:=by
  rw[areArs_nil h2]at hl
  have:=congrArg List.toArray hl
  simpa using this
 subst hargs
 obtain⟨a1,a2,a3,a4,a5⟩:=h.flds hd
 have p1:=p2pos e.toNat
 have a0:=Int.mul_nonneg a1 (Int.le_of_lt p1)
 refine(parse_tx w (envOf rfl he) s t e K k hd (ten_big (by omega)) (ten_two a5)).mono ?_
 rintro en w1 ⟨v',rfl,hn,hb⟩
 exact⟨_,rfl,resNE_is hn,hb⟩
def textTS(xs:List Ar):Option Res:=match xs with
 |[.n K k]=>some (resT K k)
 |_=>none
def textTO:CF→St→Option (Value×St):=oracle 64 (conSpec TL textP textTS)
theorem textTO_ok:RunOkE Tryz.prog textTO:=con_oracle numG gTL roTL2 fun xs R h hp=>by
 unfold textTS at h
 split at h
 ·injection h with h
  subst h
  unfold textP at hp
  exact textT_con (of_decide_eq_true hp)
 ·cases h
def parseS(xs:List Ar):Option Res:=match xs with
 |[.s [K,k]]=>some (resNE K k 0)
 |_=>none
def parseP(xs:List Ar):Bool:=match xs with
 |[.s [K,k]]=>decide (inT K k)
 |_=>false
def parseO:CF→St→Option (Value×St):=oracle 67 (conSpec TL parseP parseS)
theorem parseO_ok:RunOkE Tryz.prog parseO:=con_oracle numG gTL roTL2 fun xs R h hp=>by
 unfold parseS at h
 split at h
 ·injection h with h
  subst h
  unfold parseP at hp
  exact parse_con (of_decide_eq_true hp)
 ·cases h
end Go.Proofs.YtedhbbjlbgpafaaGreatDoor
