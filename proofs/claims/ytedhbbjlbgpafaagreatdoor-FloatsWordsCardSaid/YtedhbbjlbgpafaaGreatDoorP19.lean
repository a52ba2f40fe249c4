/-
  The contracts as answers of calls.
-/
import Derived.Test.YtedhbbjlbgpafaaGreatDoorP18
set_option linter.unusedVariables false
set_option linter.unusedSimpArgs false
namespace Go.Proofs.YtedhbbjlbgpafaaGreatDoor
open Go.RowKit Go.Shelf Go.Canon
def mach3(v:Value):Option (Int×Int×Int):=match v with
 |.agg x=>match x.toList with
  |[.int .i64 E,.int .i64 P,.int .i64 m]=>some (E,P,m)
  |_=>none
 |_=>none
theorem mach3_ok{v:Value}{E P m:Int}(h:mach3 v=some (E,P,m)):v=machV E P m:=by
 unfold mach3 at h
 split at h
 ·rename_i x
  split at h
  ·rename_i a b c hx
   injection h with h;injection h with h1 h;injection h with h2 h3
   subst h1 h2 h3
   exact congrArg Value.agg (Array.ext' hx)
  ·cases h
 ·cases h
def fmt2(v:Value):Option (Int×Int):=match v with
 |.agg x=>match x.toList with
  |[.int .i64 E,.int .i64 P]=>some (E,P)
  |_=>none
 |_=>none
theorem fmt2_ok{v:Value}{E P:Int}(h:fmt2 v=some (E,P)):v=.agg #[.int .i64 E,.int .i64 P]:=by
 unfold fmt2 at h
 split at h
 ·rename_i x
  split at h
  ·rename_i a b hx
   injection h with h;injection h with h1 h2
   subst h1 h2
   exact congrArg Value.agg (Array.ext' hx)
  ·cases h
 ·cases h
def plusS(xs:List Ar):Option Res:=match xs with
 |[.v a,.v b]=>some (⟨none,wordV ((wX a+wX b)%two128)⟩:Res)
 |_=>none
def plusP(xs:List Ar):Bool:=match xs with
 |[.v a,.v b]=>wB a&&wB b
 |_=>false
def plusO:CF→St→Option (Value×St):=oracle 141 (conSpec TT plusP plusS)
theorem plusO_ok:RunOkE Tryz.prog plusO:=con_oracle numG gTT roTT fun xs R h hp=>by
 unfold plusS at h
 split at h
 ·injection h with h
  subst h
  unfold plusP at hp;rw[Bool.and_eq_true]at hp;exact plus_con hp.1 hp.2
 ·cases h
def minusS(xs:List Ar):Option Res:=match xs with
 |[.v a,.v b]=>some (⟨none,wordV ((wX a-wX b)%two128)⟩:Res)
 |_=>none
def minusP(xs:List Ar):Bool:=match xs with
 |[.v a,.v b]=>wB a&&wB b
 |_=>false
def minusO:CF→St→Option (Value×St):=oracle 146 (conSpec TT minusP minusS)
theorem minusO_ok:RunOkE Tryz.prog minusO:=con_oracle numG gTT roTT fun xs R h hp=>by
 unfold minusS at h
 split at h
 ·injection h with h
  subst h
  unfold minusP at hp;rw[Bool.and_eq_true]at hp;exact minus_con hp.1 hp.2
 ·cases h
def lessS(xs:List Ar):Option Res:=match xs with
 |[.v a,.v b]=>some (⟨none,.bool (decide (wX a<wX b))⟩:Res)
 |_=>none
def lessP(xs:List Ar):Bool:=match xs with
 |[.v a,.v b]=>wB a&&wB b
 |_=>false
def lessO:CF→St→Option (Value×St):=oracle 181 (conSpec TT lessP lessS)
theorem lessO_ok:RunOkE Tryz.prog lessO:=con_oracle numG gTT roTT fun xs R h hp=>by
 unfold lessS at h
 split at h
 ·injection h with h
  subst h
  unfold lessP at hp;rw[Bool.and_eq_true]at hp;exact less_con hp.1 hp.2
 ·cases h
def leftS(xs:List Ar):Option Res:=match xs with
 |[.v a,.v (.int .i64 k)]=>some (⟨none,wordV (wX a*2^k.toNat%two128)⟩:Res)
 |_=>none
def leftP(xs:List Ar):Bool:=match xs with
 |[.v a,.v (.int .i64 k)]=>wB a&&decide (0≤k∧k≤127)
 |_=>false
def leftO:CF→St→Option (Value×St):=oracle 164 (conSpec TT leftP leftS)
theorem leftO_ok:RunOkE Tryz.prog leftO:=con_oracle numG gTT roTT fun xs R h hp=>by
 unfold leftS at h
 split at h
 ·injection h with h
  subst h
  unfold leftP at hp;rw[Bool.and_eq_true]at hp;exact left_con hp.1 (of_decide_eq_true hp.2).1 (of_decide_eq_true hp.2).2
 ·cases h
def rightS(xs:List Ar):Option Res:=match xs with
 |[.v a,.v (.int .i64 k)]=>some (⟨none,wordV (wX a/2^k.toNat)⟩:Res)
 |_=>none
def rightP(xs:List Ar):Bool:=match xs with
 |[.v a,.v (.int .i64 k)]=>wB a&&decide (0≤k∧k≤127)
 |_=>false
def rightO:CF→St→Option (Value×St):=oracle 143 (conSpec TT rightP rightS)
theorem rightO_ok:RunOkE Tryz.prog rightO:=con_oracle numG gTT roTT fun xs R h hp=>by
 unfold rightS at h
 split at h
 ·injection h with h
  subst h
  unfold rightP at hp;rw[Bool.and_eq_true]at hp;exact right_con hp.1 (of_decide_eq_true hp.2).1 (of_decide_eq_true hp.2).2
 ·cases h
def oneS(xs:List Ar):Option Res:=match xs with
 |[]=>some (⟨none,wordV 1⟩:Res)
 |_=>none
def oneP(xs:List Ar):Bool:=match xs with
 |[]=>true
 |_=>false
def oneO:CF→St→Option (Value×St):=oracle 145 (conSpec TT oneP oneS)
theorem oneO_ok:RunOkE Tryz.prog oneO:=con_oracle numG gTT roTT fun xs R h hp=>by
 unfold oneS at h
 split at h
 ·injection h with h
  subst h
  exact one_con
 ·cases h
def signS(xs:List Ar):Option Res:=match xs with
 |[.n K k]=>some (⟨none,.int .i64 (sgI K)⟩:Res)
 |_=>none
def signP(xs:List Ar):Bool:=match xs with
 |[.n K k]=>true
 |_=>false
def signO:CF→St→Option (Value×St):=oracle 29 (conSpec TT signP signS)
theorem signO_ok:RunOkE Tryz.prog signO:=con_oracle numG gTT roTT fun xs R h hp=>by
 unfold signS at h
 split at h
 ·injection h with h
  subst h
  exact sign_con _ _
 ·cases h
def negS(xs:List Ar):Option Res:=match xs with
 |[.n K k]=>some (resN (-K) k:Res)
 |_=>none
def negP(xs:List Ar):Bool:=match xs with
 |[.n K k]=>true
 |_=>false
def negO:CF→St→Option (Value×St):=oracle 152 (conSpec TT negP negS)
theorem negO_ok:RunOkE Tryz.prog negO:=con_oracle numG gTT roTT fun xs R h hp=>by
 unfold negS at h
 split at h
 ·injection h with h
  subst h
  exact neg_con _ _
 ·cases h
def absS(xs:List Ar):Option Res:=match xs with
 |[.n K k]=>some (resN K.natAbs k:Res)
 |_=>none
def absP(xs:List Ar):Bool:=match xs with
 |[.n K k]=>true
 |_=>false
def absO:CF→St→Option (Value×St):=oracle 85 (conSpec TT absP absS)
theorem absO_ok:RunOkE Tryz.prog absO:=con_oracle numG gTT roTT fun xs R h hp=>by
 unfold absS at h
 split at h
 ·injection h with h
  subst h
  exact abs_con _ _
 ·cases h
def addS(xs:List Ar):Option Res:=match xs with
 |[.n K k,.n L l]=>some (resN (upK K k l+upK L l k) (min k l):Res)
 |_=>none
def addP(xs:List Ar):Bool:=match xs with
 |[.n K k,.n L l]=>decide (inB (upK K k l) (min k l))&&decide (inB (upK L l k) (min k l))
 |_=>false
def addO:CF→St→Option (Value×St):=oracle 79 (conSpec TT addP addS)
theorem addO_ok:RunOkE Tryz.prog addO:=con_oracle numG gTT roTT fun xs R h hp=>by
 unfold addS at h
 split at h
 ·injection h with h
  subst h
  unfold addP at hp;rw[Bool.and_eq_true]at hp;exact add_con _ _ _ _ (of_decide_eq_true hp.1) (of_decide_eq_true hp.2)
 ·cases h
def subS(xs:List Ar):Option Res:=match xs with
 |[.n K k,.n L l]=>some (resN (upK K k l-upK L l k) (min k l):Res)
 |_=>none
def subP(xs:List Ar):Bool:=match xs with
 |[.n K k,.n L l]=>decide (inB (upK K k l) (min k l))&&decide (inB (upK L l k) (min k l))
 |_=>false
def subO:CF→St→Option (Value×St):=oracle 77 (conSpec TT subP subS)
theorem subO_ok:RunOkE Tryz.prog subO:=con_oracle numG gTT roTT fun xs R h hp=>by
 unfold subS at h
 split at h
 ·injection h with h
  subst h
  unfold subP at hp;rw[Bool.and_eq_true]at hp;exact sub_con _ _ _ _ (of_decide_eq_true hp.1) (of_decide_eq_true hp.2)
 ·cases h
def cmpS(xs:List Ar):Option Res:=match xs with
 |[.n K k,.n L l]=>some (⟨none,.int .i64 (cmpI (upK K k l) (upK L l k))⟩:Res)
 |_=>none
def cmpP(xs:List Ar):Bool:=match xs with
 |[.n K k,.n L l]=>decide (inB (upK K k l) (min k l))&&decide (inB (upK L l k) (min k l))
 |_=>false
def cmpO:CF→St→Option (Value×St):=oracle 26 (conSpec TT cmpP cmpS)
theorem cmpO_ok:RunOkE Tryz.prog cmpO:=con_oracle numG gTT roTT fun xs R h hp=>by
 unfold cmpS at h
 split at h
 ·injection h with h
  subst h
  unfold cmpP at hp;rw[Bool.and_eq_true]at hp;exact cmp_con _ _ _ _ (of_decide_eq_true hp.1) (of_decide_eq_true hp.2)
 ·cases h
def logS(xs:List Ar):Option Res:=match xs with
 |[.n K k]=>some (⟨none,.tuple #[.int .i64 (logI K k),.int .i64 (logE K)]⟩:Res)
 |_=>none
def logP(xs:List Ar):Bool:=match xs with
 |[.n K k]=>decide (inB K k)
 |_=>false
def logO:CF→St→Option (Value×St):=oracle 173 (conSpec TT logP logS)
theorem logO_ok:RunOkE Tryz.prog logO:=con_oracle numG gTT roTT fun xs R h hp=>by
 unfold logS at h
 split at h
 ·injection h with h
  subst h
  unfold logP at hp;exact log_con (of_decide_eq_true hp)
 ·cases h
def isIntS(xs:List Ar):Option Res:=match xs with
 |[.n K k]=>some (⟨none,.bool (isI' K k)⟩:Res)
 |_=>none
def isIntP(xs:List Ar):Bool:=match xs with
 |[.n K k]=>true
 |_=>false
def isIntO:CF→St→Option (Value×St):=oracle 159 (conSpec TT isIntP isIntS)
theorem isIntO_ok:RunOkE Tryz.prog isIntO:=con_oracle numG gTT roTT fun xs R h hp=>by
 unfold isIntS at h
 split at h
 ·injection h with h
  subst h
  exact isInt_con _ _
 ·cases h
def floorS(xs:List Ar):Option Res:=match xs with
 |[.n K k]=>some (resN (floorK K k) 0:Res)
 |_=>none
def floorP(xs:List Ar):Bool:=match xs with
 |[.n K k]=>decide (-sml<K*2^k.toNat∧K*2^k.toNat<sml∧ -50000≤k)
 |_=>false
def floorO:CF→St→Option (Value×St):=oracle 163 (conSpec TT floorP floorS)
theorem floorO_ok:RunOkE Tryz.prog floorO:=con_oracle numG gTT roTT fun xs R h hp=>by
 unfold floorS at h
 split at h
 ·injection h with h
  subst h
  unfold floorP at hp;obtain⟨h1,h2,h3⟩:=of_decide_eq_true hp;exact floor_con h1 h2 h3
 ·cases h
def shiftedS(xs:List Ar):Option Res:=match xs with
 |[.n K k,.v (.int .i64 d)]=>some (resN K (k+d):Res)
 |_=>none
def shiftedP(xs:List Ar):Bool:=match xs with
 |[.n K k,.v (.int .i64 d)]=>decide (inB K k∧ -20000≤d∧d≤20000)
 |_=>false
def shiftedO:CF→St→Option (Value×St):=oracle 162 (conSpec TT shiftedP shiftedS)
theorem shiftedO_ok:RunOkE Tryz.prog shiftedO:=con_oracle numG gTT roTT fun xs R h hp=>by
 unfold shiftedS at h
 split at h
 ·injection h with h
  subst h
  unfold shiftedP at hp;obtain⟨h1,h2,h3⟩:=of_decide_eq_true hp;exact shifted_con h1 h2 h3
 ·cases h
def powerS(xs:List Ar):Option Res:=match xs with
 |[.v (.int .i64 d)]=>some (resN 1 d:Res)
 |_=>none
def powerP(xs:List Ar):Bool:=match xs with
 |[.v (.int .i64 d)]=>decide (-20000≤d∧d≤20000)
 |_=>false
def powerO:CF→St→Option (Value×St):=oracle 190 (conSpec TT powerP powerS)
theorem powerO_ok:RunOkE Tryz.prog powerO:=con_oracle numG gTT roTT fun xs R h hp=>by
 unfold powerS at h
 split at h
 ·injection h with h
  subst h
  unfold powerP at hp;obtain⟨h2,h3⟩:=of_decide_eq_true hp;exact power_con h2 h3
 ·cases h
def toNumS(xs:List Ar):Option Res:=match xs with
 |[.v a]=>some (resN (wX a) 0:Res)
 |_=>none
def toNumP(xs:List Ar):Bool:=match xs with
 |[.v a]=>wB a&&decide (wX a<2^124)
 |_=>false
def toNumO:CF→St→Option (Value×St):=oracle 161 (conSpec TT toNumP toNumS)
theorem toNumO_ok:RunOkE Tryz.prog toNumO:=con_oracle numG gTT roTT fun xs R h hp=>by
 unfold toNumS at h
 split at h
 ·injection h with h
  subst h
  unfold toNumP at hp;rw[Bool.and_eq_true]at hp;exact toNum_con hp.1 (of_decide_eq_true hp.2)
 ·cases h
def toWordS(xs:List Ar):Option Res:=match xs with
 |[.n K k]=>some (⟨none,wordV (K*2^k.toNat)⟩:Res)
 |_=>none
def toWordP(xs:List Ar):Bool:=match xs with
 |[.n K k]=>decide (0≤k∧0≤K*2^k.toNat∧K*2^k.toNat<2^124)
 |_=>false
def toWordO:CF→St→Option (Value×St):=oracle 84 (conSpec TT toWordP toWordS)
theorem toWordO_ok:RunOkE Tryz.prog toWordO:=con_oracle numG gTT roTT fun xs R h hp=>by
 unfold toWordS at h
 split at h
 ·injection h with h
  subst h
  unfold toWordP at hp;obtain⟨h1,h2,h3⟩:=of_decide_eq_true hp;exact toWord_con h1 h2 h3
 ·cases h
def biasS(xs:List Ar):Option Res:=match xs with
 |[.v a]=>match mach3 a with
  |some (E,P,_)=>some (⟨none,.int .i64 (biasOf E)⟩:Res)
  |none=>none
 |_=>none
def biasP(xs:List Ar):Bool:=match xs with
 |[.v a]=>match mach3 a with
  |some (E,P,_)=>decide (Fmt E P)
  |none=>false
 |_=>false
def biasO:CF→St→Option (Value×St):=oracle 175 (conSpec TT biasP biasS)
theorem biasO_ok:RunOkE Tryz.prog biasO:=con_oracle numG gTT roTT fun xs R h hp=>by
 unfold biasS at h
 split at h
 ·split at h
  ·rename_i hm
   injection h with h
   subst h
   unfold biasP at hp
   simp only[hm]at hp
   rw[mach3_ok hm]
   exact bias_con (of_decide_eq_true hp)
  ·cases h
 ·cases h
def lowestS(xs:List Ar):Option Res:=match xs with
 |[.v a]=>match mach3 a with
  |some (E,P,_)=>some (⟨none,.int .i64 (1-biasOf E)⟩:Res)
  |none=>none
 |_=>none
def lowestP(xs:List Ar):Bool:=match xs with
 |[.v a]=>match mach3 a with
  |some (E,P,_)=>decide (Fmt E P)
  |none=>false
 |_=>false
def lowestO:CF→St→Option (Value×St):=oracle 179 (conSpec TT lowestP lowestS)
theorem lowestO_ok:RunOkE Tryz.prog lowestO:=con_oracle numG gTT roTT fun xs R h hp=>by
 unfold lowestS at h
 split at h
 ·split at h
  ·rename_i hm
   injection h with h
   subst h
   unfold lowestP at hp
   simp only[hm]at hp
   rw[mach3_ok hm]
   exact lowest_con (of_decide_eq_true hp)
  ·cases h
 ·cases h
def finestS(xs:List Ar):Option Res:=match xs with
 |[.v a]=>match mach3 a with
  |some (E,P,_)=>some (⟨none,.int .i64 (fineOf E P)⟩:Res)
  |none=>none
 |_=>none
def finestP(xs:List Ar):Bool:=match xs with
 |[.v a]=>match mach3 a with
  |some (E,P,_)=>decide (Fmt E P)
  |none=>false
 |_=>false
def finestO:CF→St→Option (Value×St):=oracle 229 (conSpec TT finestP finestS)
theorem finestO_ok:RunOkE Tryz.prog finestO:=con_oracle numG gTT roTT fun xs R h hp=>by
 unfold finestS at h
 split at h
 ·split at h
  ·rename_i hm
   injection h with h
   subst h
   unfold finestP at hp
   simp only[hm]at hp
   rw[mach3_ok hm]
   exact finest_con (of_decide_eq_true hp)
  ·cases h
 ·cases h
def infinityS(xs:List Ar):Option Res:=match xs with
 |[.v a]=>match mach3 a with
  |some (E,P,_)=>some (⟨none,wordV (infOf E P)⟩:Res)
  |none=>none
 |_=>none
def infinityP(xs:List Ar):Bool:=match xs with
 |[.v a]=>match mach3 a with
  |some (E,P,_)=>decide (Fmt E P)
  |none=>false
 |_=>false
def infinityO:CF→St→Option (Value×St):=oracle 83 (conSpec TT infinityP infinityS)
theorem infinityO_ok:RunOkE Tryz.prog infinityO:=con_oracle numG gTT roTT fun xs R h hp=>by
 unfold infinityS at h
 split at h
 ·split at h
  ·rename_i hm
   injection h with h
   subst h
   unfold infinityP at hp
   simp only[hm]at hp
   rw[mach3_ok hm]
   exact infinity_con (of_decide_eq_true hp)
  ·cases h
 ·cases h
def quietS(xs:List Ar):Option Res:=match xs with
 |[.v a]=>match mach3 a with
  |some (E,P,_)=>some (⟨none,wordV (quietOf E P)⟩:Res)
  |none=>none
 |_=>none
def quietP(xs:List Ar):Bool:=match xs with
 |[.v a]=>match mach3 a with
  |some (E,P,_)=>decide (Fmt E P)
  |none=>false
 |_=>false
def quietO:CF→St→Option (Value×St):=oracle 140 (conSpec TT quietP quietS)
theorem quietO_ok:RunOkE Tryz.prog quietO:=con_oracle numG gTT roTT fun xs R h hp=>by
 unfold quietS at h
 split at h
 ·split at h
  ·rename_i hm
   injection h with h
   subst h
   unfold quietP at hp
   simp only[hm]at hp
   rw[mach3_ok hm]
   exact quiet_con (of_decide_eq_true hp)
  ·cases h
 ·cases h
def checkS(xs:List Ar):Option Res:=match xs with
 |[.v a]=>match fmt2 a with
  |some (E,P)=>some (⟨none,.int .i64 (if Fmt E P then 0 else 2)⟩:Res)
  |none=>none
 |_=>none
def checkO:CF→St→Option (Value×St):=oracle 172 (conSpec TT (fun _=>true) checkS)
theorem checkO_ok:RunOkE Tryz.prog checkO:=con_oracle numG gTT roTT fun xs R h hp=>by
 unfold checkS at h
 split at h
 ·split at h
  ·rename_i hm
   injection h with h
   subst h
   rw[fmt2_ok hm]
   exact check_con _ _
  ·cases h
 ·cases h
def unsignedS(xs:List Ar):Option Res:=match xs with
 |[.v a,.v b]=>match mach3 a with
  |some (E,P,_)=>some (⟨none,.tuple #[.bool (decide (signOf E P≤wX b)),wordV (sizeOf' E P (wX b))]⟩:Res)
  |none=>none
 |_=>none
def unsignedP(xs:List Ar):Bool:=match xs with
 |[.v a,.v b]=>match mach3 a with
  |some (E,P,_)=>decide (Fmt E P)&&wB b
  |none=>false
 |_=>false
def unsignedO:CF→St→Option (Value×St):=oracle 138 (conSpec TT unsignedP unsignedS)
theorem unsignedO_ok:RunOkE Tryz.prog unsignedO:=con_oracle numG gTT roTT fun xs R h hp=>by
 unfold unsignedS at h
 split at h
 ·split at h
  ·rename_i hm
   injection h with h
   subst h
   unfold unsignedP at hp
   simp only[hm,Bool.and_eq_true]at hp
   rw[mach3_ok hm]
   exact unsigned_con (of_decide_eq_true hp.1) hp.2
  ·cases h
 ·cases h
def signedS(xs:List Ar):Option Res:=match xs with
 |[.v a,.v (.bool s),.v b]=>match mach3 a,s with
  |some (E,P,_),true=>some (⟨none,wordV (wX b+signOf E P)⟩:Res)
  |some _,false=>some (⟨none,wordV (wX b)⟩:Res)
  |none,_=>none
 |_=>none
def signedP(xs:List Ar):Bool:=match xs with
 |[.v a,.v (.bool _),.v b]=>match mach3 a with
  |some (E,P,_)=>decide (Fmt E P)&&(wB b&&decide (wX b<signOf E P))
  |none=>false
 |_=>false
def signedO:CF→St→Option (Value×St):=oracle 69 (conSpec TT signedP signedS)
theorem signedO_ok:RunOkE Tryz.prog signedO:=con_oracle numG gTT roTT fun xs R h hp=>by
 unfold signedS at h
 split at h
 ·split at h
  ·rename_i hm
   injection h with h
   subst h
   unfold signedP at hp
   simp only[hm,Bool.and_eq_true]at hp
   rw[mach3_ok hm]
   exact signedT_con (of_decide_eq_true hp.1) hp.2.1 (of_decide_eq_true hp.2.2)
  ·rename_i q hm
   obtain⟨E,P,m⟩:=q
   injection h with h
   subst h
   unfold signedP at hp
   simp only[hm,Bool.and_eq_true]at hp
   rw[mach3_ok hm]
   exact signedF_con hp.2.1
  ·cases h
 ·cases h
end Go.Proofs.YtedhbbjlbgpafaaGreatDoor
