/-
  What one word of a format stands for, or its error.
-/
import Derived.Test.YtedhbbjlbgpafaaGreatDoorP24
set_option linter.unusedVariables false
set_option linter.unusedSimpArgs false
set_option maxRecDepth 1000000
namespace Go.Proofs.YtedhbbjlbgpafaaGreatDoor
open Go.RowKit Go.Shelf Go.Canon
def fmtV(E P:Int):Value:=.agg #[.int .i64 E,.int .i64 P]
def readC:CF→St→Option (Value×St):=orElse checkO (orElse rightO decodeO)
noncomputable def readX:CF→St→Option (Value×St):=orElse readC (runO Tryz.prog (orElse readC (runO Tryz.prog readC 1000)) 1000)
theorem readC_ok:RunOkE Tryz.prog readC:=orElse_ok checkO_ok (orElse_ok rightO_ok decodeO_ok)
theorem readX_ok:RunOkE Tryz.prog readX:=orElse_ok readC_ok (runO_ok noCountP mixedP (orElse_ok readC_ok (runO_ok noCountP mixedP readC_ok 1000).e) 1000).e
def chkE(E P:Int):Int:=if Fmt E P then 0 else 2
def rcs0(E P X:Int)(far:Bool):List (Bool×Bool):=
 [(!decide (wX (wordV X)/2^(IntKind.i64.wrap (E+P)).toNat/18446744073709551616=0∧wX (wordV X)/2^(IntKind.i64.wrap (E+P)).toNat%18446744073709551616=0),far),(wB (wordV X)&&decide (0≤IntKind.i64.wrap (E+P)∧IntKind.i64.wrap (E+P)≤127),true),
  (true,true),(true,true),(true,true),(true,true),(true,true),(false,false),(true,true),(true,true),(true,true),(false,false),(false,false),(chkE E P !=0,false),(true,true)]
def rcs1(E P X:Int)(neg:Bool):List (Bool×Bool):=(true,true)::(true,true)::(false,false)::(false,false)::(true,true)::(true,true)::(negOf E P (wX (wordV X)),neg)::(decide (Fmt E P)&&(wB (wordV X)&&decide (wX (wordV X)<2*signOf E P)),true)::rcs0 E P X false
noncomputable def readRun(E P X:Int)(an:List Bool)(n:Nat):Option (Value×Option CObj×List (Bool×Bool)):=conRun Tryz.prog TR readX 1000 65 [.v (fmtV E P),.v (wordV X)] an n
theorem read_bad(E P X:Int):readRun E P X [true,true,true] 2=some (.tuple #[opZ 0 false,.int .i64 2],some (.fact 0),[(true,true),(true,true),(true,true),(true,true),(true,true),(chkE E P !=0,true),(true,true)]):=by kernel_rfl
theorem read_far(E P X:Int):readRun E P X [false,false,false,false,true,true,true,true] 2=some (.tuple #[opZ 0 false,.int .i64 6],some (.fact 0),(true,true)::(true,true)::rcs0 E P X true):=by kernel_rfl
theorem read_t(E P X:Int):readRun E P X [false,false,false,false,true,false,true,false,false,true] 25=some (.tuple #[subst 25 4 (opT (kindOf E P (wX (wordV X))) true (opK E P (wX (wordV X)))),.int .i64 0],some (.ghost 0 [opK E P (wX (wordV X)),fineOf E P]),rcs1 E P X true):=by kernel_rfl
theorem read_f(E P X:Int):readRun E P X [false,false,false,false,true,false,false,false,false,true] 25=some (.tuple #[subst 25 4 (opT (kindOf E P (wX (wordV X))) false (opK E P (wX (wordV X)))),.int .i64 0],some (.ghost 0 [opK E P (wX (wordV X)),fineOf E P]),rcs1 E P X false):=by kernel_rfl
theorem fine_eq(E P:Int):fineOf E P=1-biasOf E-P+1:=rfl
def overF(P:Int)(n:Nat):Int:=if(n:Int)<P then 0 else n-P
theorem step_fine{E P D:Int}(h0:D≠0):stepOf E P D (fineOf E P)=fineOf E P+overF P (blen D.natAbs):=by
 rw[stepOf_nz h0]
 have hl:logI D (fineOf E P)=blen D.natAbs-1+fineOf E P:=by unfold logI;rw[if_neg h0]
 rw[hl,fine_eq]
 unfold overF
 split<;>split<;>omega
theorem tO_fine{E P D:Int}(h0:D≠0):tO E D (fineOf E P)=overF P (blen D.natAbs):=by
 unfold tO
 have hl:logI D (fineOf E P)=blen D.natAbs-1+fineOf E P:=by unfold logI;rw[if_neg h0]
 rw[hl,fine_eq]
 unfold overF
 split<;>split<;>omega
theorem pow_split{a b:Nat}(h:a≤b):(2:Int)^b=2^(b-a)*2^a:=by rw[←Int.pow_add];congr 1;omega
theorem floor_exact{a q:Int}{s:Nat}(h:a=q*2^s):floorK a (1-(s:Int))=2*q∧isI' a (1-(s:Int))=true:=by
 unfold floorK isI'
 cases s with
 |zero=>
  simp only[Int.pow_zero,Int.mul_one]at h
  subst h
  constructor
  ·show a*2^1/2^0=2*a
   rw[Int.pow_zero,Int.ediv_one];omega
  ·show decide (a*2^1%2^0=0)=true
   rw[Int.pow_zero,Int.emod_one];rfl
 |succ t=>
  rw[show(1-((t+1:Nat):Int)).toNat=0 by omega,show(-(1-((t+1:Nat):Int))).toNat=t by omega]
  rw[h,Int.pow_succ,Int.pow_zero,Int.mul_one]
  have e:q*(2^t*2)=2*q*2^t:=by rw[Int.mul_comm (2^t) 2,←Int.mul_assoc,Int.mul_comm q 2]
  rw[e]
  exact⟨Int.mul_ediv_cancel _ (Int.ne_of_gt (p2pos t)),decide_eq_true (Int.mul_emod_left _ _)⟩
theorem exact_facts{E P D d:Int}{e:Nat}(h:Fmt E P)(h0:D≠0)(hd:(D.natAbs:Int)=d*2^e)(hd2:d<2^P.toNat):
 ∃(q:Int) (s:Nat),(D.natAbs:Int)=q*2^s∧overF P (blen D.natAbs)=s∧0<q∧(s=0→q<2^P.toNat)∧(0<s→2^(P-1).toNat≤q∧q<2^P.toNat):=by
 have hp:0<(D.natAbs:Int):=by omega
 obtain⟨b1,b2,b3⟩:=blen_spec hp
 obtain⟨f1,f2,f3,f4,f5⟩:=h
 generalize hn:blen D.natAbs=n at*
 generalize ha:(D.natAbs:Int)=a at*
 obtain⟨p,hpp⟩: ∃p:Nat,P=p+1:=⟨(P-1).toNat,by omega⟩
 subst hpp
 rw[show((p:Int)+1).toNat=p+1 by omega,show((p:Int)+1-1).toNat=p by omega]at*
 unfold overF
 by_cases hs:n<p+1
 ·refine⟨a,0,by simp,by rw[if_pos (by omega)];rfl,hp,fun _=>?_,fun h=>by omega⟩
  have:=pow_split (show n≤p+1 by omega)
  have h2:=Int.mul_le_mul_of_nonneg_right (show(1:Int)≤2^(p+1-n)from p2pos _) (Int.le_of_lt (p2pos n))
  omega
 ·
  have he:n≤p+1+e:=by
   apply Classical.byContradiction
   intro hc
   have h1:a<2^(p+1+e):=by
    rw[hd,Int.pow_add];exact Int.mul_lt_mul_of_pos_right hd2 (p2pos e)
   have h2:=pow_split (show p+1+e≤n-1 by omega)
   have h3:=Int.mul_le_mul_of_nonneg_right (show(1:Int)≤2^(n-1-(p+1+e))from p2pos _) (Int.le_of_lt (p2pos (p+1+e)))
   omega
  refine⟨d*2^(e-(n-(p+1))),n-(p+1),?_,by rw[if_neg (by omega)];omega,?_,?_,?_⟩
  ·rw[hd,Int.mul_assoc,←Int.pow_add];congr 2;omega
  ·have hdp:0<d:=by
    apply Classical.byContradiction
    intro hc
    have:=Int.mul_nonpos_of_nonpos_of_nonneg (show d≤0 by omega) (Int.le_of_lt (p2pos e))
    omega
   exact Int.mul_pos hdp (p2pos _)
  all_goals
   have hq:a=d*2^(e-(n-(p+1)))*2^(n-(p+1)):=by rw[hd,Int.mul_assoc,←Int.pow_add];congr 2;omega
   have up:d*2^(e-(n-(p+1)))<2^(p+1):=by
    apply Int.lt_of_mul_lt_mul_right (a:=2^(n-(p+1))) _ (Int.le_of_lt (p2pos _))
    rw[←hq,←Int.pow_add,show p+1+(n-(p+1))=n by omega]
    exact b2
  ·intro _;exact up
  ·intro _
   refine⟨?_,up⟩
   apply Int.le_of_mul_le_mul_right (a:=2^(n-(p+1))) _ (p2pos _)
   rw[←hq,←Int.pow_add,show p+(n-(p+1))=n-1 by omega]
   exact b1
theorem rnd_exact{E P m D d:Int}{e:Nat}(h:Fmt E P)(h0:D≠0)(hd:(D.natAbs:Int)=d*2^e)(hd2:d<2^P.toNat)(hmax:(D.natAbs:Int)<2^(2*biasOf E-1+P).toNat):
 rndF E P m D (fineOf E P)=0∧0≤rndW E P m D (fineOf E P)∧rndW E P m D (fineOf E P)<2*signOf E P∧kindOf E P (rndW E P m D (fineOf E P))=2∧opK E P (rndW E P m D (fineOf E P))=D:=by
 obtain⟨q,s,hq,hs,q0,q1,q2⟩:=exact_facts h h0 hd hd2
 have hbr:=bias_range h.1 h.2.1
 have hinf:=inf_range h
 have hsg:=sign_range h
 have hfl:fineOf E P=1-biasOf E-P+1:=rfl
 have hl:logI D (fineOf E P)=blen D.natAbs-1+fineOf E P:=by unfold logI;rw[if_neg h0]
 have hp:0<(D.natAbs:Int):=by omega
 have hle:logI D (fineOf E P)≤biasOf E:=by
  have hb:blen D.natAbs≤(2*biasOf E-1+P).toNat:=(blen_lt (by omega)).2 hmax
  have:=h.2.2.1
  rw[hl,hfl];omega
 have hbig: ¬logI D (fineOf E P)>biasOf E:=by omega
 obtain⟨fx1,fx2⟩:=floor_exact hq
 have hst:=step_fine (E:=E) (P:=P) h0
 have harg:fineOf E P+(1-stepOf E P D (fineOf E P))=1-(s:Int):=by rw[hst,hs];omega
 have hD:rD E P D (fineOf E P)=q:=by unfold rD;rw[harg,fx1];omega
 have hR:rR E P D (fineOf E P)=0:=by
  unfold rR restF;rw[harg,fx1,fx2]
  simp
 have hT:tO E D (fineOf E P)=s:=by rw[tO_fine h0,hs]
 have hup:upR E P m D (fineOf E P)=false:=by
  unfold upR upOf;rw[hR]
  split
  ·rfl
  ·split
   ·split<;>rfl
   ·split<;>rfl
 have hsz:sizeU E P m D (fineOf E P)=s*2^(P-1).toNat+q:=by
  unfold sizeU sizeR;rw[hup,hT,hD];simp
 obtain⟨t0,s0,s1,s2⟩:=sizeR_lt (P:=P) h h0 hle
 have hsR:sizeR E P D (fineOf E P)=s*2^(P-1).toNat+q:=by unfold sizeR;rw[hT,hD]
 rw[hsR]at s0 s1
 have hlt:sizeU E P m D (fineOf E P)<infOf E P:=by rw[hsz];exact s1
 have hinfS:infOf E P<signOf E P:=hinf.2.1
 have hF:rndF E P m D (fineOf E P)=0:=by unfold rndF;rw[if_neg h0,if_neg hbig,if_pos hlt,if_pos hR]
 have hW:rndW E P m D (fineOf E P)=(s*2^(P-1).toNat+q)+(if D<0 then signOf E P else 0):=by unfold rndW;rw[if_neg h0,if_neg hbig,if_pos hlt,hsz]
 have hspos:0<s*2^(P-1).toNat+q:=by have:=Int.mul_nonneg (show(0:Int)≤s by omega) (Int.le_of_lt (p2pos (P-1).toNat));omega
 have hsiz:sizW E P (rndW E P m D (fineOf E P))=s*2^(P-1).toNat+q:=by
  rw[hW]
  unfold sizW sizeOf'
  by_cases hn:D<0
  ·rw[if_pos hn,if_neg (by omega)];omega
  ·rw[if_neg hn,if_pos (by omega)];omega
 have hk:kindOf E P (rndW E P m D (fineOf E P))=2:=by
  unfold kindOf;rw[hsiz,if_neg (by omega),if_neg (by omega),if_pos s1]
 have hneg:negOf E P (rndW E P m D (fineOf E P))=decide (D<0):=by
  unfold negOf
  rw[hW]
  congr 1
  apply propext
  by_cases hn:D<0
  ·rw[if_pos hn];exact⟨fun _=>hn,fun _=>by omega⟩
  ·rw[if_neg hn];exact⟨fun _=>by omega,fun h=>absurd h hn⟩
 have hmag:magOf P (s*2^(P-1).toNat+q)=D.natAbs:=by
  have hpp:=p2pos (P-1).toNat
  have hP2:(2:Int)^P.toNat=2*2^(P-1).toNat:=by
   have:=h.2.2.1
   rw[show P.toNat=(P-1).toNat+1 by omega,Int.pow_succ];omega
  have hfield:fieldOf P (s*2^(P-1).toNat+q)=s+q/2^(P-1).toNat:=by
   unfold fieldOf
   rw[Int.add_comm,Int.add_mul_ediv_right _ _ (Int.ne_of_gt hpp)]
   omega
  by_cases hz:s=0
  ·subst hz
   have hqq:=q1 rfl
   have e1:((0:Nat):Int)*2^(P-1).toNat+q=q:=by simp
   rw[e1]at*
   have hf2:fieldOf P q<2:=Int.ediv_lt_of_lt_mul hpp (by omega)
   have hl0:liftOf P q=0:=by unfold liftOf;split<;>omega
   have hd0:digOf P q=q:=by
    unfold digOf
    split
    ·rw[show fieldOf P q=1 by omega];simp
    ·rfl
   unfold magOf
   rw[hl0,hd0,hq];rfl
  ·obtain⟨q3,q4⟩:=q2 (by omega)
   have hqd:q/2^(P-1).toNat=1:=by
    have h1:q/2^(P-1).toNat<2:=Int.ediv_lt_of_lt_mul hpp (by omega)
    have h2:1≤q/2^(P-1).toNat:=Int.le_ediv_of_mul_le hpp (by omega)
    omega
   rw[hqd]at hfield
   unfold magOf liftOf digOf
   rw[hfield,if_pos (by omega),if_pos (by omega),show(s:Int)+1-1=s by omega,Int.toNat_natCast,hq]
   congr 1
   omega
 refine⟨hF,?_,?_,hk,?_⟩
 ·rw[hW];split<;>omega
 ·rw[hW];split<;>omega
 ·unfold opK
  rw[if_pos hk,hsiz,hneg,hmag]
  unfold sgM
  by_cases hn:D<0
  ·rw[decide_eq_true hn];simp;omega
  ·rw[decide_eq_false hn];simp;omega
end Go.Proofs.YtedhbbjlbgpafaaGreatDoor
