/-
  Answers of calls: the contracts of words, machines and numbers.
-/
import Derived.Test.YtnapiakfbihnjaaGreatDoorP19
set_option linter.unusedVariables false
set_option linter.unusedSimpArgs false
namespace Go.Proofs.YtnapiakfbihnjaaGreatDoor
open Go.RowKit Go.Shelf Go.Canon Tryz
theorem gTT:TT.g<prog.globals.size:=of_decide_eq_true (by kernel_rfl)
theorem qL:prog.follows .mixedOrders=true:=by kernel_rfl
theorem mX:NG prog:=ajm (by kernel_rfl)
theorem jv: ∀p∈TT.ro,p.1<prog.globals.size∧p.2.all (ground 3)=true:=fun p hp=>by cases hp
def ae(X:Int):Value:=.agg #[.int .u64 (X/18446744073709551616),.int .u64 (X%18446744073709551616)]
def wX(v:Value):Int:=match v with
 |.agg x=>match x.toList with
  |[.int .u64 h,.int .u64 l]=>h*18446744073709551616+l
  |_=>0
 |_=>0
def wB(v:Value):Bool:=match v with
 |.agg x=>match x.toList with
  |[.int .u64 h,.int .u64 l]=>decide (0≤h∧h<18446744073709551616∧0≤l∧l<18446744073709551616)
  |_=>false
 |_=>false
theorem pg{v:Value}(h:wB v=true): ∃a b,v=.agg #[.int .u64 a,.int .u64 b]∧Wn a b (wX v):=by
 unfold wB at h
 split at h
 ·rename_i x
  split at h
  ·rename_i a b hx
   have e:x= #[.int .u64 a,.int .u64 b]:=Array.ext' hx
   subst e
   obtain⟨h1,h2,h3,h4⟩:=of_decide_eq_true h
   exact⟨a,b,rfl,h1,h2,h3,h4,rfl⟩
  ·cases h
 ·cases h
theorem vY{h l X:Int}(w:Wn h l X):(.agg #[.int .u64 h,.int .u64 l]:Value)=ae X:=by
 obtain⟨a,b,c,d,rfl⟩:=w
 unfold ae
 rw[show(h*18446744073709551616+l)/18446744073709551616=h by omega,show(h*18446744073709551616+l)%18446744073709551616=l by omega]
theorem yJ{g:FuncId}{xs:List Ar}{X:Int}(h: ∀w,Env w→ ∀l:List Value,kL w xs l→Calls prog g ⟨l⟩ w (jR w X)):dU prog TT g xs ⟨none,ae X⟩:=
 iJ fun w hE l ha=>(h w hE l ha).mono fun e w1 ⟨a,b,h1,h2,h3⟩=>⟨_,h1,vY h2,h3⟩
theorem agZ{a b:Value}(ha:wB a=true)(hb:wB b=true):dU prog TT 140 [.v a,.v b] ⟨none,ae ((wX a+wX b)%aW)⟩:=yJ fun w hE l hl=>by
 obtain⟨h1,l1,rfl,w1⟩:=pg ha
 obtain⟨h2,l2,rfl,w2⟩:=pg hb
 rw[xI hl]
 exact Em w _ _ _ _ _ _ w1 w2
theorem ads{a b:Value}(ha:wB a=true)(hb:wB b=true):dU prog TT 155 [.v a,.v b] ⟨none,ae ((wX a-wX b)%aW)⟩:=yJ fun w hE l hl=>by
 obtain⟨h1,l1,rfl,w1⟩:=pg ha
 obtain⟨h2,l2,rfl,w2⟩:=pg hb
 rw[xI hl]
 exact Gj w _ _ _ _ _ _ w1 w2
theorem ag1{a b:Value}(ha:wB a=true)(hb:wB b=true):dU prog TT 145 [.v a,.v b] ⟨none,.bool (decide (wX a<wX b))⟩:=iJ fun w hE l hl=>by
 obtain⟨h1,l1,rfl,w1⟩:=pg ha
 obtain⟨h2,l2,rfl,w2⟩:=pg hb
 rw[xI hl]
 exact(Jw w _ _ _ _ _ _ w1 w2).mono fun e w1 h=>⟨_,h.1,rfl,h.2⟩
theorem ag2{a:Value}{k:Int}(ha:wB a=true)(h0:0≤k)(h1:k≤127):dU prog TT 141 [.v a,.v (.int .i64 k)] ⟨none,ae (wX a*2^k.toNat%aW)⟩:=yJ fun w hE l hl=>by
 obtain⟨h1,l1,rfl,w1⟩:=pg ha
 rw[xI hl]
 obtain⟨n,rfl⟩:=Int.eq_ofNat_of_zero_le h0
 exact Gl w _ _ _ w1 n (by omega)
theorem adt{a:Value}{k:Int}(ha:wB a=true)(h0:0≤k)(h1:k≤127):dU prog TT 123 [.v a,.v (.int .i64 k)] ⟨none,ae (wX a/2^k.toNat)⟩:=yJ fun w hE l hl=>by
 obtain⟨h1,l1,rfl,w1⟩:=pg ha
 rw[xI hl]
 obtain⟨n,rfl⟩:=Int.eq_ofNat_of_zero_le h0
 exact En w _ _ _ w1 n (by omega)
instance (E P:Int):Decidable (aG E P):=by unfold aG;infer_instance
def ed(E P m:Int):Value:=.agg #[.int .i64 E,.int .i64 P,.int .i64 m]
theorem anA:dU prog TT 144 [] ⟨none,ae 1⟩:=iJ fun w hE l hl=>by
 rw[uK hl]
 exact(one_any w).mono fun e w1 h=>⟨_,h.1,vY ⟨by omega,by omega,by omega,by omega,by omega⟩,h.2⟩
theorem adu(E P:Int):dU prog TT 122 [.v (.agg #[.int .i64 E,.int .i64 P])] ⟨none,.int .i64 (if aG E P then 0 else 2)⟩:=iJ fun w hE l hl=>by
 rw[wR hl]
 by_cases h:aG E P
 ·rw[if_pos h];exact(adv w E P h).mono fun e w1 h=>⟨_,h.1,rfl,h.2⟩
 ·rw[if_neg h];exact(ag4 w E P h).mono fun e w1 h=>⟨_,h.1,rfl,h.2⟩
theorem ag5{E P m:Int}(h:aG E P):dU prog TT 136 [.v (ed E P m)] ⟨none,.int .i64 (aH E)⟩:=iJ fun w hE l hl=>by
 rw[wR hl]
 exact(SY w E P m h.1 h.2.1).mono fun e w1 h=>⟨_,h.1,rfl,by rw[h.2];exact(Below.refl _ _).alloc (Nat.le_refl _) _⟩
theorem aav{E P m:Int}(h:aG E P):dU prog TT 142 [.v (ed E P m)] ⟨none,.int .i64 (1-aH E)⟩:=iJ fun w hE l hl=>by
 rw[wR hl]
 exact(Ld w E P m h.1 h.2.1).mono fun e w1 h=>⟨_,h.1,rfl,h.2⟩
def az(E P:Int):Int:=1-aH E-P+1
theorem aaw{E P m:Int}(h:aG E P):dU prog TT 197 [.v (ed E P m)] ⟨none,.int .i64 (az E P)⟩:=iJ fun w hE l hl=>by
 rw[wR hl]
 exact(aax w E P m h.1 h.2.1 h.2.2.1 h.2.2.2.1).mono fun e w1 h=>⟨_,h.1,rfl,h.2⟩
theorem S9{E P m:Int}(h:aG E P):dU prog TT 90 [.v (ed E P m)] ⟨none,ae (aB E P)⟩:=yJ fun w hE l hl=>by
 rw[wR hl];exact Gm w E P m h
theorem adx{E P m:Int}(h:aG E P):dU prog TT 126 [.v (ed E P m)] ⟨none,ae (aV E P)⟩:=yJ fun w hE l hl=>by
 rw[wR hl];exact ady w E P m h
def sizeOf'(E P X:Int):Int:=if X<ai E P then X else X-ai E P
theorem Tc{E P m:Int}{a:Value}(h:aG E P)(ha:wB a=true):dU prog TT 176 [.v (ed E P m),.v a] ⟨none,.tuple #[.bool (decide (ai E P≤wX a)),ae (sizeOf' E P (wX a))]⟩:=iJ fun w hE l hl=>by
 obtain⟨h1,l1,rfl,w1⟩:=pg ha
 rw[xI hl]
 unfold sizeOf'
 by_cases hX:wX (.agg #[.int .u64 h1,.int .u64 l1])<ai E P
 ·rw[if_pos hX,decide_eq_false (by omega)]
  refine(Td w E P m _ _ _ h w1 hX).mono ?_
  rintro e w2 ⟨a,b,k1,k2,k3⟩
  exact⟨_,k1,by rw[vY k2];rfl,k3⟩
 ·rw[if_neg hX,decide_eq_true (by omega)]
  refine(Tf w E P m _ _ _ h w1 (by omega)).mono ?_
  rintro e w2 ⟨a,b,k1,k2,k3⟩
  exact⟨_,k1,by rw[vY k2];rfl,k3⟩
theorem Xg{E P m:Int}{a:Value}(h:aG E P)(ha:wB a=true)(hX:wX a<ai E P):dU prog TT 89 [.v (ed E P m),.v (.bool true),.v a] ⟨none,ae (wX a+ai E P)⟩:=yJ fun w hE l hl=>by
 obtain⟨h1,l1,rfl,w1⟩:=pg ha
 rw[YC hl]
 exact aay w E P m _ _ _ h w1 hX
theorem Xh{E P m:Int}{a:Value}(ha:wB a=true):dU prog TT 89 [.v (ed E P m),.v (.bool false),.v a] ⟨none,ae (wX a)⟩:=iJ fun w hE l hl=>by
 obtain⟨h1,l1,rfl,w1⟩:=pg ha
 rw[YC hl]
 exact(adA w E P m _ _).mono fun e w2 h=>⟨_,h.1,vY w1,h.2⟩
def eu(K k:Int):Int:=if K=0 then 0 else aQ K.natAbs-1+k
def mf(K:Int):Int:=if K=0 then 8 else 0
theorem anB{K k:Int}(hb:inB K k):dU prog TT 134 [.n K k] ⟨none,.tuple #[.int .i64 (eu K k),.int .i64 (mf K)]⟩:=iJ fun w hE l ha=>by
 obtain⟨v,rfl,s,t,e,h1,h2⟩:=yK ha
 obtain⟨p1,p2,p3,p4⟩:=hb
 obtain⟨b0,b1,b2⟩:=h2.bounds ⟨p1,p2⟩ ⟨p3,p4⟩
 rcases h2 with⟨rfl,rfl,rfl,rfl⟩|⟨ho,hp,j,rfl,rfl⟩
 ·obtain⟨bo,la,ca,rfl,ht⟩:=h1.Gn
  have hz:=ht.nil
  injection hz with z1 z2 z3
  subst z1 z2 z3
  exact(Ti w false none 0 0 0).mono fun e w1 h=>⟨_,h.1,rfl,h.2⟩
 ·have hq:=Int.mul_pos hp (au j)
  have hk:(sg s t*2^j).natAbs=(t*2^j).toNat:=by
   cases s
   ·have e:sg false t=t:=rfl
    rw[e];omega
   ·have e:sg true t*2^j= -(t*2^j):=Int.neg_mul _ _
    rw[e];omega
  have hne:sg s t*2^j≠0:=by
   intro h0;rw[h0]at hk;simp at hk;omega
  have e1:eu (sg s t*2^j) k=aQ t-1+(k+j):=by
   unfold eu
   rw[if_neg hne,hk,show(((t*2^j).toNat:Nat):Int)=t*2^j by omega,Eo hp]
   omega
  rw[e1,show mf (sg s t*2^j)=0 by unfold mf;rw[if_neg hne]]
  exact(anD w v s t _ h1 b2 hp b0 b1).mono fun e w1 h=>⟨_,h.1,rfl,h.2⟩
def Ep(K k:Int):Bool:=decide (K*2^k.toNat%2^(-k).toNat=0)
def lW(K k:Int):Int:=K*2^k.toNat/2^(-k).toNat
theorem Dn.flat{w:World}{v:Value}{K k:Int}(h:Dn w v K k):Dn w v (K*2^k.toNat) (-((-k).toNat:Int)):=by
 by_cases hk:0≤k
 ·have:=h.lower 0 hk
  rw[show k-0=k by omega]at this
  rw[show(-((-k).toNat:Int))=0 by omega]
  exact this
 ·rw[show k.toNat=0 by omega,show(-((-k).toNat:Int))=k by omega]
  simpa using h
theorem adB(K k:Int):dU prog TT 160 [.n K k] ⟨none,.bool (Ep K k)⟩:=iJ fun w hE l ha=>by
 obtain⟨v,rfl,h⟩:=yK ha
 obtain⟨s,t,e,h1,h2,h3⟩:=h.flat.isInt
 refine(uu w v s t 1 e h1 (by omega)).mono ?_
 rintro en w1 ⟨rfl,hb⟩
 refine⟨_,rfl,?_,hb⟩
 show Value.bool _=.bool _
 congr 1
 unfold Ep
 rw[decide_eq_true (show(1:Int)=1 from rfl),Bool.true_and]
 congr 1
 apply propext
 generalize (-k).toNat=m at*
 rcases h2 with⟨rfl,rfl,rfl,h0⟩|⟨ho,hp,j,he,h0⟩
 ·rw[h0];simp
 ·rw[h0]
  by_cases hj:m≤j
  ·constructor
   ·intro _
    obtain⟨d,rfl⟩:=Nat.exists_eq_add_of_le hj
    rw[Int.pow_add,Int.mul_comm (2^m),←Int.mul_assoc]
    exact Int.mul_emod_left _ _
   ·intro _;omega
  ·constructor
   ·intro _;omega
   ·intro hd
    exfalso
    obtain⟨d,rfl⟩: ∃d,m=j+(d+1):=⟨m-j-1,by omega⟩
    obtain⟨q,hq⟩:=Int.dvd_of_emod_eq_zero hd
    rw[Int.pow_add,Int.mul_comm (2^j),Int.mul_assoc,Int.mul_comm (2^j) q,←Int.mul_assoc]at hq
    have hc:=Int.eq_of_mul_eq_mul_right (Int.ne_of_gt (au j)) hq
    rw[Int.pow_succ,Int.mul_comm (2^d) 2,Int.mul_assoc]at hc
    cases s
    ·have e:sg false t=t:=rfl
     rw[e]at hc;omega
    ·have e:sg true t= -t:=rfl
     rw[e]at hc;omega
theorem adE{K k:Int}(h1: -gz<K*2^k.toNat)(h2:K*2^k.toNat<gz)(h3: -50000≤k):dU prog TT 158 [.n K k] (lS (lW K k) 0):=iJ fun w hE l ha=>by
 obtain⟨v,rfl,h⟩:=yK ha
 refine(Gp w hE v _ _ h.flat ⟨h1,h2⟩ (by omega)).mono ?_
 rintro en w1 ⟨v',rfl,h1,hb⟩
 exact⟨_,rfl,uw h1,hb⟩
theorem Xi{K k d:Int}(hb:inB K k)(h1: -20000≤d)(h2:d≤20000):dU prog TT 168 [.n K k,.v (.int .i64 d)] (lS K (k+d)):=iJ fun w hE l ha=>by
 obtain⟨v,rfl,h⟩:=aqk ha
 obtain⟨p1,p2,p3,p4⟩:=hb
 refine(wS w v K k d h ⟨p1,p2⟩ ⟨p3,p4⟩ ⟨h1,h2⟩).mono ?_
 rintro en w1 ⟨v',rfl,h1,hb⟩
 exact⟨_,rfl,uw h1,hb⟩
theorem adI{a:Value}(ha:wB a=true)(hX:wX a<2^124):dU prog TT 186 [.v a] (lS (wX a) 0):=iJ fun w hE l hl=>by
 obtain⟨h1,l1,rfl,w1⟩:=pg ha
 rw[wR hl]
 refine(adJ w hE _ _ _ w1 hX).mono ?_
 rintro en w1 ⟨v',rfl,h1,hb⟩
 exact⟨_,rfl,uw h1,hb⟩
theorem aaz{K k:Int}(h0:0≤k)(h1:0≤K*2^k.toNat)(h2:K*2^k.toNat<2^124):dU prog TT 196 [.n K k] ⟨none,ae (K*2^k.toNat)⟩:=yJ fun w hE l ha=>by
 obtain⟨v,rfl,h⟩:=yK ha
 have:=h.flat
 rw[show(-((-k).toNat:Int))=0 by omega]at this
 exact aaA w hE v _ this h1 h2
end Go.Proofs.YtnapiakfbihnjaaGreatDoor
