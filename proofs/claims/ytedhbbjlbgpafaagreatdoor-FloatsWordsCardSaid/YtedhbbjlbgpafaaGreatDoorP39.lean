/-
  The machine's Decode of a NaN: the text of its payload.
-/
import Derived.Test.YtedhbbjlbgpafaaGreatDoorP38
set_option linter.unusedVariables false
set_option linter.unusedSimpArgs false
namespace Go.Proofs.YtedhbbjlbgpafaaGreatDoor
open Go.RowKit Go.Shelf Go.Canon
def pyK(E P X:Int):Int:=if kindOf E P X=5 then sizW E P X-infOf E P else sizW E P X-quietOf E P
theorem opK_nan{E P X:Int}(hk:kindOf E P X=4∨kindOf E P X=5):opK E P X=pyK E P X*2^(0-fineOf E P).toNat:=by
 unfold opK pyK
 rcases hk with hk|hk
 ·rw[if_neg (by omega),if_neg (by omega),if_pos hk,if_neg (by omega)]
 ·rw[if_neg (by omega),if_pos hk,if_pos hk]
theorem dr_down{s:Bool}{t e z:Int}{j:Nat}(h:Dr s t e (z*2^j) (-(j:Int))):Dr s t e z 0:=by
 rcases h with⟨h1,h2,h3,h4⟩|⟨ho,hp,i,he,hK⟩
 ·refine .inl ⟨h1,h2,h3,?_⟩
  have:=p2pos j
  rcases Int.mul_eq_zero.1 h4 with h|h
  ·exact h
  ·omega
 ·have hij:j≤i:=by
   apply Classical.byContradiction
   intro hc
   obtain⟨c,rfl⟩: ∃c,j=i+(c+1):=⟨j-i-1,by omega⟩
   rw[Int.pow_add,Int.mul_comm (2^i),←Int.mul_assoc]at hK
   have h1:=Int.eq_of_mul_eq_mul_right (show(2:Int)^i≠0 by have:=p2pos i;omega) hK
   rw[Int.pow_succ,←Int.mul_assoc]at h1
   cases s
   ·simp[sg]at h1;omega
   ·simp only[sg,if_true]at h1;omega
  obtain⟨c,rfl⟩: ∃c,i=j+c:=⟨i-j,by omega⟩
  refine .inr ⟨ho,hp,c,by omega,?_⟩
  rw[Int.pow_add,Int.mul_comm (2^j),←Int.mul_assoc]at hK
  exact Int.eq_of_mul_eq_mul_right (show(2:Int)^j≠0 by have:=p2pos j;omega) hK
def deNRes(E P X:Int):Res:=⟨some (.s [pyK E P X,0]),.tuple #[.agg #[.int .i64 (kindOf E P X),.bool (negOf E P X),tokS],.int .i64 0]⟩
theorem decodeN_word{E P X:Int}(h:Fmt E P)(x0:0≤X)(hX:X<2*signOf E P)(hk:kindOf E P X=4∨kindOf E P X=5):Con Tryz.prog TL 22 [.v (fmtV E P),.v (wordV X)] (deNRes E P X):=by
 have hf:=fine_le h
 refine con_imp (decodeT_word h x0 hX) fun w v hr=>?_
 obtain⟨x,hx,hv⟩:=hr
 obtain⟨b,rfl,s,t,e,hd,rfl⟩:=is_st.1 hx
 refine⟨_,is_st.2 ⟨_,rfl,s,t,e,?_,rfl⟩,hv⟩
 rw[opK_nan hk]at hd
 obtain⟨j,hj⟩: ∃j,(0-fineOf E P).toNat=j:=⟨_,rfl⟩
 rw[hj,show fineOf E P= -(j:Int)by omega]at hd
 exact dr_down hd
def deNS(xs:List Ar):Option Res:=match xs with
 |[.v a,.v b]=>match fmt2 a with
  |some (E,P)=>some (deNRes E P (wX b))
  |none=>none
 |_=>none
def deNP(xs:List Ar):Bool:=match xs with
 |[.v a,.v b]=>match fmt2 a with
  |some (E,P)=>decide (Fmt E P)&&(wB b&&decide (wX b<2*signOf E P∧(kindOf E P (wX b)=4∨kindOf E P (wX b)=5)))
  |none=>false
 |_=>false
def mDecNO:CF→St→Option (Value×St):=oracle 22 (conSpec TL deNP deNS)
theorem mDecNO_ok:RunOkE Tryz.prog mDecNO:=con_oracle numG gTL roTL2 fun xs R h hp=>by
 unfold deNS at h
 split at h
 ·split at h
  ·rename_i hm
   injection h with h
   subst h
   unfold deNP at hp
   simp only[hm,Bool.and_eq_true]at hp
   rw[fmt2_ok hm]
   have hd:=of_decide_eq_true hp.2.2
   have:=decodeN_word (of_decide_eq_true hp.1) (wX_range hp.2.1).1 hd.1 hd.2
   rw[←wB_eq hp.2.1]at this
   exact this
  ·cases h
 ·cases h
def signedVS(xs:List Ar):Option Res:=match xs with
 |[.v a,.v (.bool s),.v b]=>match mach3 a with
  |some (E,P,_)=>some (⟨none,wordV (wX b+(if s=true then signOf E P else 0))⟩:Res)
  |none=>none
 |_=>none
def signedVO:CF→St→Option (Value×St):=oracle 69 (conSpec TT signedP signedVS)
theorem signedVO_ok:RunOkE Tryz.prog signedVO:=con_oracle numG gTT roTT fun xs R h hp=>by
 unfold signedVS at h
 split at h
 ·rename_i a s b
  split at h
  ·rename_i E P m hm
   injection h with h
   subst h
   unfold signedP at hp
   simp only[hm,Bool.and_eq_true]at hp
   rw[mach3_ok hm]
   cases s
   ·have:=signedF_con (E:=E) (P:=P) (m:=m) (a:=b) hp.2.1
    rw[if_neg (by decide),Int.add_zero]
    exact this
   ·rw[if_pos rfl]
    exact signedT_con (of_decide_eq_true hp.1) hp.2.1 (of_decide_eq_true hp.2.2)
  ·cases h
 ·cases h
end Go.Proofs.YtedhbbjlbgpafaaGreatDoor
