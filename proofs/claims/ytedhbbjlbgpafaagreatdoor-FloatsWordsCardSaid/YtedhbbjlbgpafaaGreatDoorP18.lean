/-
  Answers of calls: the contracts of words, machines and numbers.
-/
import Derived.Test.YtedhbbjlbgpafaaGreatDoorP17
set_option linter.unusedVariables false
set_option linter.unusedSimpArgs false
namespace Go.Proofs.YtedhbbjlbgpafaaGreatDoor
open Go.RowKit Go.Shelf Go.Canon
theorem gTT:TT.g<Tryz.prog.globals.size:=of_decide_eq_true (by kernel_rfl)
theorem mixedP:Tryz.prog.follows .mixedOrders=true:=by kernel_rfl
theorem noCountP:NG Tryz.prog:=ng_of (by kernel_rfl)
theorem roTT: ∀p∈TT.ro,p.1<Tryz.prog.globals.size∧p.2.all (ground 3)=true:=fun p hp=>by cases hp
def wordV(X:Int):Value:=.agg #[.int .u64 (X/18446744073709551616),.int .u64 (X%18446744073709551616)]
def wX(v:Value):Int:=match v with
 |.agg x=>match x.toList with
  |[.int .u64 h,.int .u64 l]=>h*18446744073709551616+l
  |_=>0
 |_=>0
def wB(v:Value):Bool:=match v with
 |.agg x=>match x.toList with
  |[.int .u64 h,.int .u64 l]=>decide (0≤h∧h<18446744073709551616∧0≤l∧l<18446744073709551616)
  |_=>false
 |_=>false
theorem wB_ok{v:Value}(h:wB v=true): ∃a b,v=.agg #[.int .u64 a,.int .u64 b]∧Wn a b (wX v):=by
 unfold wB at h
 split at h
 ·rename_i x
  split at h
  ·rename_i a b hx
   have e:x= #[.int .u64 a,.int .u64 b]:=Array.ext' hx
   subst e
   obtain⟨h1,h2,h3,h4⟩:=of_decide_eq_true h
   exact⟨a,b,rfl,h1,h2,h3,h4,rfl⟩
  ·cases h
 ·cases h
theorem wordV_of{h l X:Int}(w:Wn h l X):(.agg #[.int .u64 h,.int .u64 l]:Value)=wordV X:=by
 obtain⟨a,b,c,d,rfl⟩:=w
 unfold wordV
 rw[show(h*18446744073709551616+l)/18446744073709551616=h by omega,show(h*18446744073709551616+l)%18446744073709551616=l by omega]
theorem con_w{g:FuncId}{xs:List Ar}{X:Int}(h: ∀w,Env w→ ∀l:List Value,AreArs w xs l→Calls Tryz.prog g ⟨l⟩ w (WPost w X)):Con Tryz.prog TT g xs ⟨none,wordV X⟩:=
 con_mk fun w hE l ha=>(h w hE l ha).mono fun e w1 ⟨a,b,h1,h2,h3⟩=>⟨_,h1,wordV_of h2,h3⟩
theorem plus_con{a b:Value}(ha:wB a=true)(hb:wB b=true):Con Tryz.prog TT 141 [.v a,.v b] ⟨none,wordV ((wX a+wX b)%two128)⟩:=con_w fun w hE l hl=>by
 obtain⟨h1,l1,rfl,w1⟩:=wB_ok ha
 obtain⟨h2,l2,rfl,w2⟩:=wB_ok hb
 rw[ars_vv hl]
 exact plus_any w _ _ _ _ _ _ w1 w2
theorem minus_con{a b:Value}(ha:wB a=true)(hb:wB b=true):Con Tryz.prog TT 146 [.v a,.v b] ⟨none,wordV ((wX a-wX b)%two128)⟩:=con_w fun w hE l hl=>by
 obtain⟨h1,l1,rfl,w1⟩:=wB_ok ha
 obtain⟨h2,l2,rfl,w2⟩:=wB_ok hb
 rw[ars_vv hl]
 exact minus_any w _ _ _ _ _ _ w1 w2
theorem less_con{a b:Value}(ha:wB a=true)(hb:wB b=true):Con Tryz.prog TT 181 [.v a,.v b] ⟨none,.bool (decide (wX a<wX b))⟩:=con_mk fun w hE l hl=>by
 obtain⟨h1,l1,rfl,w1⟩:=wB_ok ha
 obtain⟨h2,l2,rfl,w2⟩:=wB_ok hb
 rw[ars_vv hl]
 exact(less_any w _ _ _ _ _ _ w1 w2).mono fun e w1 h=>⟨_,h.1,rfl,h.2⟩
theorem left_con{a:Value}{k:Int}(ha:wB a=true)(h0:0≤k)(h1:k≤127):Con Tryz.prog TT 164 [.v a,.v (.int .i64 k)] ⟨none,wordV (wX a*2^k.toNat%two128)⟩:=con_w fun w hE l hl=>by
 obtain⟨h1,l1,rfl,w1⟩:=wB_ok ha
 rw[ars_vv hl]
 obtain⟨n,rfl⟩:=Int.eq_ofNat_of_zero_le h0
 exact wleft_any w _ _ _ w1 n (by omega)
theorem right_con{a:Value}{k:Int}(ha:wB a=true)(h0:0≤k)(h1:k≤127):Con Tryz.prog TT 143 [.v a,.v (.int .i64 k)] ⟨none,wordV (wX a/2^k.toNat)⟩:=con_w fun w hE l hl=>by
 obtain⟨h1,l1,rfl,w1⟩:=wB_ok ha
 rw[ars_vv hl]
 obtain⟨n,rfl⟩:=Int.eq_ofNat_of_zero_le h0
 exact wright_any w _ _ _ w1 n (by omega)
instance (E P:Int):Decidable (Fmt E P):=by unfold Fmt;infer_instance
def machV(E P m:Int):Value:=.agg #[.int .i64 E,.int .i64 P,.int .i64 m]
theorem one_con:Con Tryz.prog TT 145 [] ⟨none,wordV 1⟩:=con_mk fun w hE l hl=>by
 rw[areArs_nil hl]
 exact(one_any w).mono fun e w1 h=>⟨_,h.1,wordV_of ⟨by omega,by omega,by omega,by omega,by omega⟩,h.2⟩
theorem check_con(E P:Int):Con Tryz.prog TT 172 [.v (.agg #[.int .i64 E,.int .i64 P])] ⟨none,.int .i64 (if Fmt E P then 0 else 2)⟩:=con_mk fun w hE l hl=>by
 rw[ars_v hl]
 by_cases h:Fmt E P
 ·rw[if_pos h];exact(check_yes w E P h).mono fun e w1 h=>⟨_,h.1,rfl,h.2⟩
 ·rw[if_neg h];exact(check_no w E P h).mono fun e w1 h=>⟨_,h.1,rfl,h.2⟩
theorem bias_con{E P m:Int}(h:Fmt E P):Con Tryz.prog TT 175 [.v (machV E P m)] ⟨none,.int .i64 (biasOf E)⟩:=con_mk fun w hE l hl=>by
 rw[ars_v hl]
 exact(bias_any w E P m h.1 h.2.1).mono fun e w1 h=>⟨_,h.1,rfl,by rw[h.2];exact(Below.refl _ _).alloc (Nat.le_refl _) _⟩
theorem lowest_con{E P m:Int}(h:Fmt E P):Con Tryz.prog TT 179 [.v (machV E P m)] ⟨none,.int .i64 (1-biasOf E)⟩:=con_mk fun w hE l hl=>by
 rw[ars_v hl]
 exact(lowest_any w E P m h.1 h.2.1).mono fun e w1 h=>⟨_,h.1,rfl,h.2⟩
def fineOf(E P:Int):Int:=1-biasOf E-P+1
theorem finest_con{E P m:Int}(h:Fmt E P):Con Tryz.prog TT 229 [.v (machV E P m)] ⟨none,.int .i64 (fineOf E P)⟩:=con_mk fun w hE l hl=>by
 rw[ars_v hl]
 exact(finest_any w E P m h.1 h.2.1 h.2.2.1 h.2.2.2.1).mono fun e w1 h=>⟨_,h.1,rfl,h.2⟩
theorem infinity_con{E P m:Int}(h:Fmt E P):Con Tryz.prog TT 83 [.v (machV E P m)] ⟨none,wordV (infOf E P)⟩:=con_w fun w hE l hl=>by
 rw[ars_v hl];exact infinity_any w E P m h
theorem quiet_con{E P m:Int}(h:Fmt E P):Con Tryz.prog TT 140 [.v (machV E P m)] ⟨none,wordV (quietOf E P)⟩:=con_w fun w hE l hl=>by
 rw[ars_v hl];exact quiet_any w E P m h
def sizeOf'(E P X:Int):Int:=if X<signOf E P then X else X-signOf E P
theorem unsigned_con{E P m:Int}{a:Value}(h:Fmt E P)(ha:wB a=true):Con Tryz.prog TT 138 [.v (machV E P m),.v a] ⟨none,.tuple #[.bool (decide (signOf E P≤wX a)),wordV (sizeOf' E P (wX a))]⟩:=con_mk fun w hE l hl=>by
 obtain⟨h1,l1,rfl,w1⟩:=wB_ok ha
 rw[ars_vv hl]
 unfold sizeOf'
 by_cases hX:wX (.agg #[.int .u64 h1,.int .u64 l1])<signOf E P
 ·rw[if_pos hX,decide_eq_false (by omega)]
  refine(unsigned_pos w E P m _ _ _ h w1 hX).mono ?_
  rintro e w2 ⟨a,b,k1,k2,k3⟩
  exact⟨_,k1,by rw[wordV_of k2];rfl,k3⟩
 ·rw[if_neg hX,decide_eq_true (by omega)]
  refine(unsigned_neg w E P m _ _ _ h w1 (by omega)).mono ?_
  rintro e w2 ⟨a,b,k1,k2,k3⟩
  exact⟨_,k1,by rw[wordV_of k2];rfl,k3⟩
theorem signedT_con{E P m:Int}{a:Value}(h:Fmt E P)(ha:wB a=true)(hX:wX a<signOf E P):Con Tryz.prog TT 69 [.v (machV E P m),.v (.bool true),.v a] ⟨none,wordV (wX a+signOf E P)⟩:=con_w fun w hE l hl=>by
 obtain⟨h1,l1,rfl,w1⟩:=wB_ok ha
 rw[ars_vvv hl]
 exact signed_yes w E P m _ _ _ h w1 hX
theorem signedF_con{E P m:Int}{a:Value}(ha:wB a=true):Con Tryz.prog TT 69 [.v (machV E P m),.v (.bool false),.v a] ⟨none,wordV (wX a)⟩:=con_mk fun w hE l hl=>by
 obtain⟨h1,l1,rfl,w1⟩:=wB_ok ha
 rw[ars_vvv hl]
 exact(signed_no w E P m _ _).mono fun e w2 h=>⟨_,h.1,wordV_of w1,h.2⟩
def logI(K k:Int):Int:=if K=0 then 0 else blen K.natAbs-1+k
def logE(K:Int):Int:=if K=0 then 8 else 0
theorem log_con{K k:Int}(hb:inB K k):Con Tryz.prog TT 173 [.n K k] ⟨none,.tuple #[.int .i64 (logI K k),.int .i64 (logE K)]⟩:=con_mk fun w hE l ha=>by
 obtain⟨v,rfl,s,t,e,h1,h2⟩:=ars_n ha
 obtain⟨p1,p2,p3,p4⟩:=hb
 obtain⟨b0,b1,b2⟩:=h2.bounds ⟨p1,p2⟩ ⟨p3,p4⟩
 rcases h2 with⟨rfl,rfl,rfl,rfl⟩|⟨ho,hp,j,rfl,rfl⟩
 ·obtain⟨bo,la,ca,rfl,ht⟩:=h1.nilb
  have hz:=ht.nil
  injection hz with z1 z2 z3
  subst z1 z2 z3
  exact(Log_zero w false none 0 0 0).mono fun e w1 h=>⟨_,h.1,rfl,h.2⟩
 ·have hq:=Int.mul_pos hp (p2pos j)
  have hk:(sg s t*2^j).natAbs=(t*2^j).toNat:=by
   cases s
   ·have e:sg false t=t:=rfl
    rw[e];omega
   ·have e:sg true t*2^j= -(t*2^j):=Int.neg_mul _ _
    rw[e];omega
  have hne:sg s t*2^j≠0:=by
   intro h0;rw[h0]at hk;simp at hk;omega
  have e1:logI (sg s t*2^j) k=blen t-1+(k+j):=by
   unfold logI
   rw[if_neg hne,hk,show(((t*2^j).toNat:Nat):Int)=t*2^j by omega,blen_mul hp]
   omega
  rw[e1,show logE (sg s t*2^j)=0 by unfold logE;rw[if_neg hne]]
  exact(Log_nil w v s t _ h1 b2 hp b0 b1).mono fun e w1 h=>⟨_,h.1,rfl,h.2⟩
def isI'(K k:Int):Bool:=decide (K*2^k.toNat%2^(-k).toNat=0)
def floorK(K k:Int):Int:=K*2^k.toNat/2^(-k).toNat
theorem Dn.flat{w:World}{v:Value}{K k:Int}(h:Dn w v K k):Dn w v (K*2^k.toNat) (-((-k).toNat:Int)):=by
 by_cases hk:0≤k
 ·have:=h.lower 0 hk
  rw[show k-0=k by omega]at this
  rw[show(-((-k).toNat:Int))=0 by omega]
  exact this
 ·rw[show k.toNat=0 by omega,show(-((-k).toNat:Int))=k by omega]
  simpa using h
theorem isInt_con(K k:Int):Con Tryz.prog TT 159 [.n K k] ⟨none,.bool (isI' K k)⟩:=con_mk fun w hE l ha=>by
 obtain⟨v,rfl,h⟩:=ars_n ha
 obtain⟨s,t,e,h1,h2,h3⟩:=h.flat.isInt
 refine(isInt_any w v s t 1 e h1 (by omega)).mono ?_
 rintro en w1 ⟨rfl,hb⟩
 refine⟨_,rfl,?_,hb⟩
 show Value.bool _=.bool _
 congr 1
 unfold isI'
 rw[decide_eq_true (show(1:Int)=1 from rfl),Bool.true_and]
 congr 1
 apply propext
 generalize (-k).toNat=m at*
 rcases h2 with⟨rfl,rfl,rfl,h0⟩|⟨ho,hp,j,he,h0⟩
 ·rw[h0];simp
 ·rw[h0]
  by_cases hj:m≤j
  ·constructor
   ·intro _
    obtain⟨d,rfl⟩:=Nat.exists_eq_add_of_le hj
    rw[Int.pow_add,Int.mul_comm (2^m),←Int.mul_assoc]
    exact Int.mul_emod_left _ _
   ·intro _;omega
  ·constructor
   ·intro _;omega
   ·intro hd
    exfalso
    obtain⟨d,rfl⟩: ∃d,m=j+(d+1):=⟨m-j-1,by omega⟩
    obtain⟨q,hq⟩:=Int.dvd_of_emod_eq_zero hd
    rw[Int.pow_add,Int.mul_comm (2^j),Int.mul_assoc,Int.mul_comm (2^j) q,←Int.mul_assoc]at hq
    have hc:=Int.eq_of_mul_eq_mul_right (Int.ne_of_gt (p2pos j)) hq
    rw[Int.pow_succ,Int.mul_comm (2^d) 2,Int.mul_assoc]at hc
    cases s
    ·have e:sg false t=t:=rfl
     rw[e]at hc;omega
    ·have e:sg true t= -t:=rfl
     rw[e]at hc;omega
theorem floor_con{K k:Int}(h1: -sml<K*2^k.toNat)(h2:K*2^k.toNat<sml)(h3: -50000≤k):Con Tryz.prog TT 163 [.n K k] (resN (floorK K k) 0):=con_mk fun w hE l ha=>by
 obtain⟨v,rfl,h⟩:=ars_n ha
 refine(floor_any w hE v _ _ h.flat ⟨h1,h2⟩ (by omega)).mono ?_
 rintro en w1 ⟨v',rfl,h1,hb⟩
 exact⟨_,rfl,resN_is h1,hb⟩
theorem shifted_con{K k d:Int}(hb:inB K k)(h1: -20000≤d)(h2:d≤20000):Con Tryz.prog TT 162 [.n K k,.v (.int .i64 d)] (resN K (k+d)):=con_mk fun w hE l ha=>by
 obtain⟨v,rfl,h⟩:=ars_nv ha
 obtain⟨p1,p2,p3,p4⟩:=hb
 refine(shifted_any w v K k d h ⟨p1,p2⟩ ⟨p3,p4⟩ ⟨h1,h2⟩).mono ?_
 rintro en w1 ⟨v',rfl,h1,hb⟩
 exact⟨_,rfl,resN_is h1,hb⟩
theorem power_con{d:Int}(h1: -20000≤d)(h2:d≤20000):Con Tryz.prog TT 190 [.v (.int .i64 d)] (resN 1 d):=con_mk fun w hE l ha=>by
 rw[ars_v ha]
 refine(power_any w hE d ⟨h1,h2⟩).mono ?_
 rintro en w1 ⟨v',rfl,h1,hb⟩
 exact⟨_,rfl,resN_is h1,hb⟩
theorem toNum_con{a:Value}(ha:wB a=true)(hX:wX a<2^124):Con Tryz.prog TT 161 [.v a] (resN (wX a) 0):=con_mk fun w hE l hl=>by
 obtain⟨h1,l1,rfl,w1⟩:=wB_ok ha
 rw[ars_v hl]
 refine(toNum_any w hE _ _ _ w1 hX).mono ?_
 rintro en w1 ⟨v',rfl,h1,hb⟩
 exact⟨_,rfl,resN_is h1,hb⟩
theorem toWord_con{K k:Int}(h0:0≤k)(h1:0≤K*2^k.toNat)(h2:K*2^k.toNat<2^124):Con Tryz.prog TT 84 [.n K k] ⟨none,wordV (K*2^k.toNat)⟩:=con_w fun w hE l ha=>by
 obtain⟨v,rfl,h⟩:=ars_n ha
 have:=h.flat
 rw[show(-((-k).toNat:Int))=0 by omega]at this
 exact toWord_any w hE v _ this h1 h2
end Go.Proofs.YtedhbbjlbgpafaaGreatDoor
