/-
  The contracts as answers of calls.
-/
import Derived.Test.YtnapiakfbihnjaaGreatDoorP20
set_option linter.unusedVariables false
set_option linter.unusedSimpArgs false
namespace Go.Proofs.YtnapiakfbihnjaaGreatDoor
open Go.RowKit Go.Shelf Go.Canon Tryz
def iw(v:Value):Option (Int×Int×Int):=match v with
 |.agg x=>match x.toList with
  |[.int .i64 E,.int .i64 P,.int .i64 m]=>some (E,P,m)
  |_=>none
 |_=>none
theorem jw{v:Value}{E P m:Int}(h:iw v=some (E,P,m)):v=ed E P m:=by
 unfold iw at h
 split at h
 ·rename_i x
  split at h
  ·rename_i a b c hx
   injection h with h;injection h with h1 h;injection h with h2 h3
   subst h1 h2 h3
   exact congrArg Value.agg (Array.ext' hx)
  ·cases h
 ·cases h
def fmt2(v:Value):Option (Int×Int):=match v with
 |.agg x=>match x.toList with
  |[.int .i64 E,.int .i64 P]=>some (E,P)
  |_=>none
 |_=>none
theorem rH{v:Value}{E P:Int}(h:fmt2 v=some (E,P)):v=.agg #[.int .i64 E,.int .i64 P]:=by
 unfold fmt2 at h
 split at h
 ·rename_i x
  split at h
  ·rename_i a b hx
   injection h with h;injection h with h1 h2
   subst h1 h2
   exact congrArg Value.agg (Array.ext' hx)
  ·cases h
 ·cases h
def ajY(xs:List Ar):Option bP:=match xs with
 |[.v a,.v b]=>some (⟨none,ae ((wX a+wX b)%aW)⟩:bP)
 |_=>none
def aj0(xs:List Ar):Bool:=match xs with
 |[.v a,.v b]=>wB a&&wB b
 |_=>false
def abx:CF→St→Option (Value×St):=bF 140 (aZ TT aj0 ajY)
theorem U4:aN prog abx:=aP dH gTT jv fun xs R h hp=>by
 unfold ajY at h
 split at h
 ·injection h with h
  subst h
  unfold aj0 at hp;rw[Bool.and_eq_true]at hp;exact agZ hp.1 hp.2
 ·cases h
def aeG(xs:List Ar):Option bP:=match xs with
 |[.v a,.v b]=>some (⟨none,ae ((wX a-wX b)%aW)⟩:bP)
 |_=>none
def aeH(xs:List Ar):Bool:=match xs with
 |[.v a,.v b]=>wB a&&wB b
 |_=>false
def LP:CF→St→Option (Value×St):=bF 155 (aZ TT aeH aeG)
theorem GM:aN prog LP:=aP dH gTT jv fun xs R h hp=>by
 unfold aeG at h
 split at h
 ·injection h with h
  subst h
  unfold aeH at hp;rw[Bool.and_eq_true]at hp;exact ads hp.1 hp.2
 ·cases h
def aj2(xs:List Ar):Option bP:=match xs with
 |[.v a,.v b]=>some (⟨none,.bool (decide (wX a<wX b))⟩:bP)
 |_=>none
def aj3(xs:List Ar):Bool:=match xs with
 |[.v a,.v b]=>wB a&&wB b
 |_=>false
def QL:CF→St→Option (Value×St):=bF 145 (aZ TT aj3 aj2)
theorem JL:aN prog QL:=aP dH gTT jv fun xs R h hp=>by
 unfold aj2 at h
 split at h
 ·injection h with h
  subst h
  unfold aj3 at hp;rw[Bool.and_eq_true]at hp;exact ag1 hp.1 hp.2
 ·cases h
def aj6(xs:List Ar):Option bP:=match xs with
 |[.v a,.v (.int .i64 k)]=>some (⟨none,ae (wX a*2^k.toNat%aW)⟩:bP)
 |_=>none
def aj9(xs:List Ar):Bool:=match xs with
 |[.v a,.v (.int .i64 k)]=>wB a&&decide (0≤k∧k≤127)
 |_=>false
def QM:CF→St→Option (Value×St):=bF 141 (aZ TT aj9 aj6)
theorem JM:aN prog QM:=aP dH gTT jv fun xs R h hp=>by
 unfold aj6 at h
 split at h
 ·injection h with h
  subst h
  unfold aj9 at hp;rw[Bool.and_eq_true]at hp;exact ag2 hp.1 (of_decide_eq_true hp.2).1 (of_decide_eq_true hp.2).2
 ·cases h
def aeI(xs:List Ar):Option bP:=match xs with
 |[.v a,.v (.int .i64 k)]=>some (⟨none,ae (wX a/2^k.toNat)⟩:bP)
 |_=>none
def aeJ(xs:List Ar):Bool:=match xs with
 |[.v a,.v (.int .i64 k)]=>wB a&&decide (0≤k∧k≤127)
 |_=>false
def qI:CF→St→Option (Value×St):=bF 123 (aZ TT aeJ aeI)
theorem mr:aN prog qI:=aP dH gTT jv fun xs R h hp=>by
 unfold aeI at h
 split at h
 ·injection h with h
  subst h
  unfold aeJ at hp;rw[Bool.and_eq_true]at hp;exact adt hp.1 (of_decide_eq_true hp.2).1 (of_decide_eq_true hp.2).2
 ·cases h
def asI(xs:List Ar):Option bP:=match xs with
 |[]=>some (⟨none,ae 1⟩:bP)
 |_=>none
def ayZ(xs:List Ar):Bool:=match xs with
 |[]=>true
 |_=>false
def aby:CF→St→Option (Value×St):=bF 144 (aZ TT ayZ asI)
theorem NS:aN prog aby:=aP dH gTT jv fun xs R h hp=>by
 unfold asI at h
 split at h
 ·injection h with h
  subst h
  exact anA
 ·cases h
def akb(xs:List Ar):Option bP:=match xs with
 |[.n K k]=>some (⟨none,.int .i64 (pV K)⟩:bP)
 |_=>none
def awf(xs:List Ar):Bool:=match xs with
 |[.n K k]=>true
 |_=>false
def La:CF→St→Option (Value×St):=bF 24 (aZ TT awf akb)
theorem Eh:aN prog La:=aP dH gTT jv fun xs R h hp=>by
 unfold akb at h
 split at h
 ·injection h with h
  subst h
  exact ahz _ _
 ·cases h
def negS(xs:List Ar):Option bP:=match xs with
 |[.n K k]=>some (lS (-K) k:bP)
 |_=>none
def ay0(xs:List Ar):Bool:=match xs with
 |[.n K k]=>true
 |_=>false
def ah0:CF→St→Option (Value×St):=bF 149 (aZ TT ay0 negS)
theorem Y8:aN prog ah0:=aP dH gTT jv fun xs R h hp=>by
 unfold negS at h
 split at h
 ·injection h with h
  subst h
  exact anW _ _
 ·cases h
def asL(xs:List Ar):Option bP:=match xs with
 |[.n K k]=>some (lS K.natAbs k:bP)
 |_=>none
def absP(xs:List Ar):Bool:=match xs with
 |[.n K k]=>true
 |_=>false
def asM:CF→St→Option (Value×St):=bF 195 (aZ TT absP asL)
theorem aoi:aN prog asM:=aP dH gTT jv fun xs R h hp=>by
 unfold asL at h
 split at h
 ·injection h with h
  subst h
  exact anX _ _
 ·cases h
def asN(xs:List Ar):Option bP:=match xs with
 |[.n K k,.n L l]=>some (lS (Bf K k l+Bf L l k) (min k l):bP)
 |_=>none
def asQ(xs:List Ar):Bool:=match xs with
 |[.n K k,.n L l]=>decide (inB (Bf K k l) (min k l))&&decide (inB (Bf L l k) (min k l))
 |_=>false
def agQ:CF→St→Option (Value×St):=bF 71 (aZ TT asQ asN)
theorem YB:aN prog agQ:=aP dH gTT jv fun xs R h hp=>by
 unfold asN at h
 split at h
 ·injection h with h
  subst h
  unfold asQ at hp;rw[Bool.and_eq_true]at hp;exact anY _ _ _ _ (of_decide_eq_true hp.1) (of_decide_eq_true hp.2)
 ·cases h
def asR(xs:List Ar):Option bP:=match xs with
 |[.n K k]=>some (⟨none,.tuple #[.int .i64 (eu K k),.int .i64 (mf K)]⟩:bP)
 |_=>none
def asT(xs:List Ar):Bool:=match xs with
 |[.n K k]=>decide (inB K k)
 |_=>false
def ah2:CF→St→Option (Value×St):=bF 134 (aZ TT asT asR)
theorem Y9:aN prog ah2:=aP dH gTT jv fun xs R h hp=>by
 unfold asR at h
 split at h
 ·injection h with h
  subst h
  unfold asT at hp;exact anB (of_decide_eq_true hp)
 ·cases h
def aeM(xs:List Ar):Option bP:=match xs with
 |[.n K k]=>some (⟨none,.bool (Ep K k)⟩:bP)
 |_=>none
def asV(xs:List Ar):Bool:=match xs with
 |[.n K k]=>true
 |_=>false
def aeN:CF→St→Option (Value×St):=bF 160 (aZ TT asV aeM)
theorem aeO:aN prog aeN:=aP dH gTT jv fun xs R h hp=>by
 unfold aeM at h
 split at h
 ·injection h with h
  subst h
  exact adB _ _
 ·cases h
def aeP(xs:List Ar):Option bP:=match xs with
 |[.n K k]=>some (lS (lW K k) 0:bP)
 |_=>none
def aeR(xs:List Ar):Bool:=match xs with
 |[.n K k]=>decide (-gz<K*2^k.toNat∧K*2^k.toNat<gz∧ -50000≤k)
 |_=>false
def aeS:CF→St→Option (Value×St):=bF 158 (aZ TT aeR aeP)
theorem aeT:aN prog aeS:=aP dH gTT jv fun xs R h hp=>by
 unfold aeP at h
 split at h
 ·injection h with h
  subst h
  unfold aeR at hp;obtain⟨h1,h2,h3⟩:=of_decide_eq_true hp;exact adE h1 h2 h3
 ·cases h
def U5(xs:List Ar):Option bP:=match xs with
 |[.n K k,.v (.int .i64 d)]=>some (lS K (k+d):bP)
 |_=>none
def U6(xs:List Ar):Bool:=match xs with
 |[.n K k,.v (.int .i64 d)]=>decide (inB K k∧ -20000≤d∧d≤20000)
 |_=>false
def JO:CF→St→Option (Value×St):=bF 168 (aZ TT U6 U5)
theorem Ja:aN prog JO:=aP dH gTT jv fun xs R h hp=>by
 unfold U5 at h
 split at h
 ·injection h with h
  subst h
  unfold U6 at hp;obtain⟨h1,h2,h3⟩:=of_decide_eq_true hp;exact Xi h1 h2 h3
 ·cases h
def aeU(xs:List Ar):Option bP:=match xs with
 |[.v a]=>some (lS (wX a) 0:bP)
 |_=>none
def aeV(xs:List Ar):Bool:=match xs with
 |[.v a]=>wB a&&decide (wX a<2^124)
 |_=>false
def U7:CF→St→Option (Value×St):=bF 186 (aZ TT aeV aeU)
theorem PW:aN prog U7:=aP dH gTT jv fun xs R h hp=>by
 unfold aeU at h
 split at h
 ·injection h with h
  subst h
  unfold aeV at hp;rw[Bool.and_eq_true]at hp;exact adI hp.1 (of_decide_eq_true hp.2)
 ·cases h
def Za(xs:List Ar):Option bP:=match xs with
 |[.n K k]=>some (⟨none,ae (K*2^k.toNat)⟩:bP)
 |_=>none
def Zb(xs:List Ar):Bool:=match xs with
 |[.n K k]=>decide (0≤k∧0≤K*2^k.toNat∧K*2^k.toNat<2^124)
 |_=>false
def NT:CF→St→Option (Value×St):=bF 196 (aZ TT Zb Za)
theorem LQ:aN prog NT:=aP dH gTT jv fun xs R h hp=>by
 unfold Za at h
 split at h
 ·injection h with h
  subst h
  unfold Zb at hp;obtain⟨h1,h2,h3⟩:=of_decide_eq_true hp;exact aaz h1 h2 h3
 ·cases h
def akc(xs:List Ar):Option bP:=match xs with
 |[.v a]=>match iw a with
  |some (E,P,_)=>some (⟨none,.int .i64 (aH E)⟩:bP)
  |none=>none
 |_=>none
def akd(xs:List Ar):Bool:=match xs with
 |[.v a]=>match iw a with
  |some (E,P,_)=>decide (aG E P)
  |none=>false
 |_=>false
def abz:CF→St→Option (Value×St):=bF 136 (aZ TT akd akc)
theorem U8:aN prog abz:=aP dH gTT jv fun xs R h hp=>by
 unfold akc at h
 split at h
 ·split at h
  ·rename_i hm
   injection h with h
   subst h
   unfold akd at hp
   simp only[hm]at hp
   rw[jw hm]
   exact ag5 (of_decide_eq_true hp)
  ·cases h
 ·cases h
def Zc(xs:List Ar):Option bP:=match xs with
 |[.v a]=>match iw a with
  |some (E,P,_)=>some (⟨none,.int .i64 (1-aH E)⟩:bP)
  |none=>none
 |_=>none
def Zd(xs:List Ar):Bool:=match xs with
 |[.v a]=>match iw a with
  |some (E,P,_)=>decide (aG E P)
  |none=>false
 |_=>false
def Dz:CF→St→Option (Value×St):=bF 142 (aZ TT Zd Zc)
theorem yO:aN prog Dz:=aP dH gTT jv fun xs R h hp=>by
 unfold Zc at h
 split at h
 ·split at h
  ·rename_i hm
   injection h with h
   subst h
   unfold Zd at hp
   simp only[hm]at hp
   rw[jw hm]
   exact aav (of_decide_eq_true hp)
  ·cases h
 ·cases h
def Ze(xs:List Ar):Option bP:=match xs with
 |[.v a]=>match iw a with
  |some (E,P,_)=>some (⟨none,.int .i64 (az E P)⟩:bP)
  |none=>none
 |_=>none
def Zf(xs:List Ar):Bool:=match xs with
 |[.v a]=>match iw a with
  |some (E,P,_)=>decide (aG E P)
  |none=>false
 |_=>false
def Iz:CF→St→Option (Value×St):=bF 197 (aZ TT Zf Ze)
theorem EU:aN prog Iz:=aP dH gTT jv fun xs R h hp=>by
 unfold Ze at h
 split at h
 ·split at h
  ·rename_i hm
   injection h with h
   subst h
   unfold Zf at hp
   simp only[hm]at hp
   rw[jw hm]
   exact aaw (of_decide_eq_true hp)
  ·cases h
 ·cases h
def PX(xs:List Ar):Option bP:=match xs with
 |[.v a]=>match iw a with
  |some (E,P,_)=>some (⟨none,ae (aB E P)⟩:bP)
  |none=>none
 |_=>none
def PY(xs:List Ar):Bool:=match xs with
 |[.v a]=>match iw a with
  |some (E,P,_)=>decide (aG E P)
  |none=>false
 |_=>false
def nK:CF→St→Option (Value×St):=bF 90 (aZ TT PY PX)
theorem lG:aN prog nK:=aP dH gTT jv fun xs R h hp=>by
 unfold PX at h
 split at h
 ·split at h
  ·rename_i hm
   injection h with h
   subst h
   unfold PY at hp
   simp only[hm]at hp
   rw[jw hm]
   exact S9 (of_decide_eq_true hp)
  ·cases h
 ·cases h
def aeX(xs:List Ar):Option bP:=match xs with
 |[.v a]=>match iw a with
  |some (E,P,_)=>some (⟨none,ae (aV E P)⟩:bP)
  |none=>none
 |_=>none
def aeY(xs:List Ar):Bool:=match xs with
 |[.v a]=>match iw a with
  |some (E,P,_)=>decide (aG E P)
  |none=>false
 |_=>false
def Dj:CF→St→Option (Value×St):=bF 126 (aZ TT aeY aeX)
theorem xH:aN prog Dj:=aP dH gTT jv fun xs R h hp=>by
 unfold aeX at h
 split at h
 ·split at h
  ·rename_i hm
   injection h with h
   subst h
   unfold aeY at hp
   simp only[hm]at hp
   rw[jw hm]
   exact adx (of_decide_eq_true hp)
  ·cases h
 ·cases h
def ae0(xs:List Ar):Option bP:=match xs with
 |[.v a]=>match fmt2 a with
  |some (E,P)=>some (⟨none,.int .i64 (if aG E P then 0 else 2)⟩:bP)
  |none=>none
 |_=>none
def xE:CF→St→Option (Value×St):=bF 122 (aZ TT (fun _=>true) ae0)
theorem qJ:aN prog xE:=aP dH gTT jv fun xs R h hp=>by
 unfold ae0 at h
 split at h
 ·split at h
  ·rename_i hm
   injection h with h
   subst h
   rw[rH hm]
   exact adu _ _
  ·cases h
 ·cases h
def PZ(xs:List Ar):Option bP:=match xs with
 |[.v a,.v b]=>match iw a with
  |some (E,P,_)=>some (⟨none,.tuple #[.bool (decide (ai E P≤wX b)),ae (sizeOf' E P (wX b))]⟩:bP)
  |none=>none
 |_=>none
def P5(xs:List Ar):Bool:=match xs with
 |[.v a,.v b]=>match iw a with
  |some (E,P,_)=>decide (aG E P)&&wB b
  |none=>false
 |_=>false
def P6:CF→St→Option (Value×St):=bF 176 (aZ TT P5 PZ)
theorem U9:aN prog P6:=aP dH gTT jv fun xs R h hp=>by
 unfold PZ at h
 split at h
 ·split at h
  ·rename_i hm
   injection h with h
   subst h
   unfold P5 at hp
   simp only[hm,Bool.and_eq_true]at hp
   rw[jw hm]
   exact Tc (of_decide_eq_true hp.1) hp.2
  ·cases h
 ·cases h
def Zg(xs:List Ar):Option bP:=match xs with
 |[.v a,.v (.bool s),.v b]=>match iw a,s with
  |some (E,P,_),true=>some (⟨none,ae (wX b+ai E P)⟩:bP)
  |some _,false=>some (⟨none,ae (wX b)⟩:bP)
  |none,_=>none
 |_=>none
def NU(xs:List Ar):Bool:=match xs with
 |[.v a,.v (.bool _),.v b]=>match iw a with
  |some (E,P,_)=>decide (aG E P)&&(wB b&&decide (wX b<ai E P))
  |none=>false
 |_=>false
def ru:CF→St→Option (Value×St):=bF 89 (aZ TT NU Zg)
theorem nM:aN prog ru:=aP dH gTT jv fun xs R h hp=>by
 unfold Zg at h
 split at h
 ·split at h
  ·rename_i hm
   injection h with h
   subst h
   unfold NU at hp
   simp only[hm,Bool.and_eq_true]at hp
   rw[jw hm]
   exact Xg (of_decide_eq_true hp.1) hp.2.1 (of_decide_eq_true hp.2.2)
  ·rename_i q hm
   obtain⟨E,P,m⟩:=q
   injection h with h
   subst h
   unfold NU at hp
   simp only[hm,Bool.and_eq_true]at hp
   rw[jw hm]
   exact Xh hp.2.1
  ·cases h
 ·cases h
end Go.Proofs.YtnapiakfbihnjaaGreatDoor
