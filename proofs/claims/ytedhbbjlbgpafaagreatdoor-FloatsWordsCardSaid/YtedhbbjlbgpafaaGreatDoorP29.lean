/-
  Add of numbers: its contract. The difference of two numbers, each at most twice the other one, is a value.
-/
import Derived.Test.YtedhbbjlbgpafaaGreatDoorP28
import Derived.Test.YtedhbbjlbgpafaaGreatDoorP08
import Derived.OpenShut
import Derived.WideShapes
import Derived.Test.YtedhbbjlbgpafaaGreatDoorRows
import Derived.ProofKit
import Derived.LaidMore
set_option linter.unusedVariables false
set_option linter.unusedSimpArgs false
set_option linter.unusedSectionVars false
set_option maxRecDepth 1000000
namespace Go.Proofs.YtedhbbjlbgpafaaGreatDoor
open Go.RowKit Go.Shelf Go.Canon
theorem siz_range{E P X:Int}(h0:0≤X)(h1:X<2*signOf E P):0≤sizW E P X∧sizW E P X<signOf E P:=by
 unfold sizW sizeOf';split<;>omega
theorem kind_two{E P X:Int}(h:kindOf E P X=2):sizW E P X<infOf E P:=by
 unfold kindOf at h
 split at h
 ·omega
 ·split at h
  ·omega
  ·split at h
   ·assumption
   ·split at h<;>omega
theorem val_form{E P X:Int}(h:Fmt E P)(h0:0≤X)(h1:X<2*signOf E P)(hk:kindOf E P X=1∨kindOf E P X=2):
 ∃(d:Int) (e:Nat),((opK E P X).natAbs:Int)=d*2^e∧0≤d∧d<2^P.toNat∧(e:Int)≤2*biasOf E-1:=by
 have hbr:=bias_range h.1 h.2.1
 rcases hk with hk|hk
 ·refine⟨0,0,?_,by omega,p2pos _,by omega⟩
  unfold opK
  rw[hk];simp
 ·have hs:=siz_range (E:=E) (P:=P) h0 h1
  have hlt:=kind_two hk
  obtain⟨f0,f1,f2,d0,d1,_⟩:=field_facts h hs.1 hlt
  have hbe:=bias_eq h.1
  have hP2:(2:Int)^P.toNat=2*2^(P-1).toNat:=by
   have:=h.2.2.1
   rw[show P.toNat=(P-1).toNat+1 by omega,Int.pow_succ];omega
  have hl:0≤liftOf P (sizW E P X)∧liftOf P (sizW E P X)≤2*biasOf E-1:=by unfold liftOf;split<;>omega
  refine⟨digOf P (sizW E P X),(liftOf P (sizW E P X)).toNat,?_,d0,by omega,by omega⟩
  have hm:0≤magOf P (sizW E P X):=Int.mul_nonneg d0 (Int.le_of_lt (p2pos _))
  unfold opK
  rw[if_pos hk]
  show _=magOf P (sizW E P X)
  unfold sgM
  split<;>omega
theorem form_lt{E P d:Int}{e:Nat}(h:Fmt E P)(h0:0≤d)(h1:d<2^P.toNat)(h2:(e:Int)≤2*biasOf E-1):d*2^e<2^(2*biasOf E-1+P).toNat:=by
 have:=h.2.2.1
 have h3:d*2^e<2^P.toNat*2^e:=Int.mul_lt_mul_of_pos_right h1 (p2pos e)
 rw[←Int.pow_add]at h3
 have h4:=pow_split (show P.toNat+e≤(2*biasOf E-1+P).toNat by omega)
 have h5:=Int.mul_le_mul_of_nonneg_right (show(1:Int)≤2^((2*biasOf E-1+P).toNat-(P.toNat+e))from p2pos _) (Int.le_of_lt (p2pos (P.toNat+e)))
 omega
theorem max_sml{E P:Int}(h:Fmt E P):(2:Int)*2^(2*biasOf E-1+P).toNat<sml:=by
 have hbr:=bias_range h.1 h.2.1
 obtain⟨f1,f2,f3,f4,f5⟩:=h
 unfold sml
 have h4:=pow_split (show(2*biasOf E-1+P).toNat≤3000 by omega)
 have h5:=pow_split (show(3000:Nat)≤60000 by omega)
 have h6:(4:Int)≤2^(60000-3000):=by
  have:=pow_split (show(2:Nat)≤60000-3000 by omega)
  have h7:=p2pos (60000-3000-2)
  have h8:(2:Int)^2=4:=by decide
  omega
 have h7:=p2pos (2*biasOf E-1+P).toNat
 have h8:=Int.mul_le_mul_of_nonneg_right (show(1:Int)≤2^(3000-(2*biasOf E-1+P).toNat)from p2pos _) (Int.le_of_lt h7)
 have h9:=Int.mul_le_mul_of_nonneg_right h6 (Int.le_of_lt (p2pos 3000))
 have h10:=p2pos 3000
 generalize (2:Int)^3000=a at*
 generalize (2:Int)^60000=b at*
 generalize (2:Int)^(2*biasOf E-1+P).toNat=c at*
 omega
theorem opK_lt{E P X:Int}(h:Fmt E P)(h0:0≤X)(h1:X<2*signOf E P)(hk:kindOf E P X=1∨kindOf E P X=2):((opK E P X).natAbs:Int)<2^(2*biasOf E-1+P).toNat:=by
 obtain⟨d,e,h2,h3,h4,h5⟩:=val_form h h0 h1 hk
 rw[h2];exact form_lt h h3 h4 h5
theorem upK_same(K k:Int):upK K k k=K:=by unfold upK;rw[show(k-min k k)=0 by omega];simp
def TL:Tabs:=⟨2,[(0,osTab),(9,tab10)]⟩
theorem gTL:TL.g<Tryz.prog.globals.size:=of_decide_eq_true (by kernel_rfl)
theorem roTL: ∀p∈TL.ro,p.1<Tryz.prog.globals.size∧p.2.all (ground 3)=true∧p.1≠TL.g:=fun p hp=>by
 rcases List.mem_cons.1 hp with rfl|hp
 ·exact⟨of_decide_eq_true (by kernel_rfl),rfl,by decide⟩
 ·rcases List.mem_cons.1 hp with rfl|hp
  ·exact⟨of_decide_eq_true (by kernel_rfl),by kernel_rfl,by decide⟩
  ·cases hp
theorem roTL2: ∀p∈TL.ro,p.1<Tryz.prog.globals.size∧p.2.all (ground 3)=true:=fun p hp=>⟨(roTL p hp).1,(roTL p hp).2.1⟩
theorem tab64_eq:tab64=Lib.deBruijn64tab.map fun z:Nat=>Value.int .u8 z:=by kernel_rfl
theorem awake_con:Con Tryz.prog TL 21 [] ⟨none,.bool true⟩:=fun w hw he args' ha=>by
 have h0:args'= #[]:=by
  have:=areArs_nil ha
  simpa using this
 subst h0
 refine(awake_calls w hw fun p hp=>?_).mono fun e w1 ⟨h1,h2⟩=>⟨_,h1,rfl,h2⟩
 obtain⟨⟨o,ho,c,e,f,rfl,ht⟩,hr⟩:=he
 rcases List.mem_cons.1 hp with rfl|hp
 ·refine⟨c,e,f,ho,fun i v hv=>?_⟩
  rw[tab64_eq,List.getElem?_map]at hv
  cases hg:Lib.deBruijn64tab[i]? with
  |none=>rw[hg]at hv;cases hv
  |some z=>
   rw[hg]at hv
   obtain⟨hlt,hz⟩:=List.getElem?_eq_some_iff.1 hg
   rw[ht i hlt]
   rw[List.getD_eq_getElem?_getD,hg]
   exact hv
 ·exact hr p hp
def awakeS(xs:List Ar):Option Res:=match xs with
 |[]=>some ⟨none,.bool true⟩
 |_=>none
def awakeO:CF→St→Option (Value×St):=oracle 21 (conSpec TL (fun _=>true) awakeS)
theorem awakeO_ok:RunOkE Tryz.prog awakeO:=con_oracle numG gTL roTL2 fun xs R h hp=>by
 unfold awakeS at h
 split at h
 ·injection h with h
  subst h
  exact awake_con
 ·cases h
theorem vErr_zero{E P X:Int}(h:vErr E P X=0):Fmt E P∧X<2*signOf E P∧(kindOf E P X=1∨kindOf E P X=2)∧vK E P X=opK E P X:=by
 have hk:vK E P X=rdK E P X:=by unfold vK;rw[if_pos h]
 unfold vErr at h
 split at h
 ·rename_i he
  have hf:Fmt E P∧X<2*signOf E P:=by
   unfold rdErr at he
   split at he
   ·rename_i hF
    split at he
    ·cases he
    ·exact⟨hF,by omega⟩
   ·cases he
  split at h
  ·rename_i hkd
   refine⟨hf.1,hf.2,?_,?_⟩
   ·unfold rdKind at hkd
    rw[if_pos he]at hkd
    omega
   ·rw[hk];unfold rdK;rw[if_pos he]
  ·cases h
 ·rename_i he
  exact absurd h he
def wv(h l:Int):Value:=.agg #[.int .u64 h,.int .u64 l]
def opV(E P m ah al bh bl ch cl:Int):Value:=.agg #[.int .i64 E,.int .i64 P,.int .i64 m,.int .u64 ah,.int .u64 al,.int .u64 bh,.int .u64 bl,.int .u64 ch,.int .u64 cl]
theorem vErr_of{E P X:Int}(h:Fmt E P)(h1:X<2*signOf E P)(hk:kindOf E P X=1∨kindOf E P X=2):vErr E P X=0∧vK E P X=opK E P X:=by
 have he:rdErr E P X=0:=by unfold rdErr;rw[if_pos h,if_neg (by omega)]
 have hkd:rdKind E P X=kindOf E P X:=by unfold rdKind;rw[if_pos he]
 have hv:vErr E P X=0:=by unfold vErr;rw[if_pos he,hkd,if_pos (by omega)]
 exact⟨hv,by unfold vK rdK;rw[if_pos hv,if_pos he]⟩
theorem sg_lt(K:Int):decide (sgI K<0)=decide (K<0):=by
 unfold sgI
 by_cases h0:K=0
 ·rw[if_pos h0,h0]
 ·rw[if_neg h0]
  by_cases h1:K<0
  ·rw[if_pos h1,decide_eq_true h1];rfl
  ·rw[if_neg h1,decide_eq_false h1];rfl
end Go.Proofs.YtedhbbjlbgpafaaGreatDoor
namespace Go.Proofs.YtedhbbjlbgpafaaGreatDoor
open Go.ChangeShapes Go.WideShapes Go.RowKit Go.Canon
theorem len2{α:Type}{l:List α}(h:l.length=2): ∃a0 a1,l=[a0,a1]:=by
 match l,h with
 |[a0,a1],_=>exact⟨a0,a1,rfl⟩
theorem len5{α:Type}{l:List α}(h:l.length=5): ∃a0 a1 a2 a3 a4,l=[a0,a1,a2,a3,a4]:=by
 match l,h with
 |[a0,a1,a2,a3,a4],_=>exact⟨a0,a1,a2,a3,a4,rfl⟩
theorem len9{α:Type}{l:List α}(h:l.length=9): ∃a0 a1 a2 a3 a4 a5 a6 a7 a8,l=[a0,a1,a2,a3,a4,a5,a6,a7,a8]:=by
 match l,h with
 |[a0,a1,a2,a3,a4,a5,a6,a7,a8],_=>exact⟨a0,a1,a2,a3,a4,a5,a6,a7,a8,rfl⟩
theorem c24:Tryz.prog.cellsOf 24=1:=by kernel_rfl
theorem c3:Tryz.prog.cellsOf 3=1:=by kernel_rfl
theorem c26:Tryz.prog.cellsOf 26=2:=by kernel_rfl
theorem c23:Tryz.prog.cellsOf 23=2:=by kernel_rfl
theorem c28:Tryz.prog.cellsOf 28=9:=by kernel_rfl
section
variable {H:Type} {enc:TypeId×Value→H} {w:World} {base:Nat} {sp:Nat→Bool} {held:Bool} {fuel:Nat} {cs:List Value} {x:DataW H×List MemPlace}
def datW(h l:Int):DataW H:=.agg [.lit (.int .u64 h),.lit (.int .u64 l)]
def datF(h l:Int):DataW H:=.agg [.lit (.int .i64 h),.lit (.int .i64 l)]
theorem trod_word(h:DataW.trod enc Tryz.prog w base sp held fuel 26 cs=some x): ∃a b,cs=[.int .u64 a,.int .u64 b]∧x=(datW a b,[])∧(Lit.int .u64 a).wf=true∧(Lit.int .u64 b).wf=true:=by
 obtain⟨xs,n,_,rfl,hlen,hl,hf⟩:=DataW.trod_struct Tryz.underlying26 h
 rw[c26]at hlen
 obtain⟨y0,y1,rfl⟩:=len2 (show xs.length=2 from hl)
 obtain⟨k0,k1,rfl⟩:=len2 hlen
 ·clear h
  have h0:=hf 0 _ rfl
  have h1:=hf 1 _ rfl
  simp[c24]at h0 h1
  obtain⟨a,e0,rfl,s0⟩:=DataW.trod_int Tryz.underlying24 h0
  obtain⟨b,e1,rfl,s1⟩:=DataW.trod_int Tryz.underlying24 h1
  simp at e0 e1
  subst e0 e1
  exact⟨a,b,rfl,rfl,s0,s1⟩
theorem trod_fmt(h:DataW.trod enc Tryz.prog w base sp held fuel 23 cs=some x): ∃a b,cs=[.int .i64 a,.int .i64 b]∧x=(datF a b,[])∧(Lit.int .i64 a).wf=true∧(Lit.int .i64 b).wf=true:=by
 obtain⟨xs,n,_,rfl,hlen,hl,hf⟩:=DataW.trod_struct Tryz.underlying23 h
 rw[c23]at hlen
 obtain⟨y0,y1,rfl⟩:=len2 (show xs.length=2 from hl)
 obtain⟨k0,k1,rfl⟩:=len2 hlen
 ·clear h
  have h0:=hf 0 _ rfl
  have h1:=hf 1 _ rfl
  simp[c3]at h0 h1
  obtain⟨a,e0,rfl,s0⟩:=DataW.trod_int Tryz.underlying3 h0
  obtain⟨b,e1,rfl,s1⟩:=DataW.trod_int Tryz.underlying3 h1
  simp at e0 e1
  subst e0 e1
  exact⟨a,b,rfl,rfl,s0,s1⟩
def datO(E P m ah al bh bl ch cl:Int):DataW H:=.agg [datF E P,.lit (.int .i64 m),datW ah al,datW bh bl,datW ch cl]
theorem open_op{v:Value}{d:DataW H}{ps:List MemPlace}(h:DataW.Trod enc Tryz.prog w base sp held 28 v d ps): ∃E P m ah al bh bl ch cl,v=opV E P m ah al bh bl ch cl∧d=datO E P m ah al bh bl ch cl∧ps=[]∧
 ((Lit.int .i64 E).wf=true∧(Lit.int .i64 P).wf=true∧(Lit.int .i64 m).wf=true)∧(Lit.int .u64 ah).wf=true∧(Lit.int .u64 al).wf=true∧(Lit.int .u64 bh).wf=true∧(Lit.int .u64 bl).wf=true∧(Lit.int .u64 ch).wf=true∧(Lit.int .u64 cl).wf=true:=by
 obtain⟨fuel,hy⟩:=h
 obtain⟨xs,n,_,hx,hlen,hl,hf⟩:=DataW.trod_struct Tryz.underlying28 hy
 rw[c28]at hlen
 have hv: ∃c:Array Value,v=.agg c:=by
  cases v<;>first|exact⟨_,rfl⟩|simp[Value.cells]at hlen
 obtain⟨c,rfl⟩:=hv
 obtain⟨c⟩:=c
 have hcs:(Value.agg ⟨c⟩).cells.toList=c:=rfl
 rw[hcs]at hlen hf
 obtain⟨y0,y1,y2,y3,y4,rfl⟩:=len5 (show xs.length=5 from hl)
 obtain⟨k0,k1,k2,k3,k4,k5,k6,k7,k8,rfl⟩:=len9 hlen
 ·clear hy
  have h0:=hf 0 _ rfl
  have h1:=hf 1 _ rfl
  have h2:=hf 2 _ rfl
  have h3:=hf 3 _ rfl
  have h4:=hf 4 _ rfl
  simp[c3,c23,c26]at h0 h1 h2 h3 h4
  obtain⟨E,P,e0,rfl,sE,sP⟩:=trod_fmt h0
  obtain⟨m,e1,rfl,sm⟩:=DataW.trod_int Tryz.underlying3 h1
  obtain⟨ah,al,e2,rfl,s1,s2⟩:=trod_word h2
  obtain⟨bh,bl,e3,rfl,s3,s4⟩:=trod_word h3
  obtain⟨ch,cl,e4,rfl,s5,s6⟩:=trod_word h4
  simp at e0 e1 e2 e3 e4
  obtain⟨rfl,rfl⟩:=e0
  obtain⟨rfl,rfl⟩:=e2
  obtain⟨rfl,rfl⟩:=e3
  obtain⟨rfl,rfl⟩:=e4
  subst e1
  injection hx with hx1 hx2
  subst hx1 hx2
  exact⟨E,P,m,ah,al,bh,bl,ch,cl,rfl,rfl,rfl,⟨sE,sP,sm⟩,s1,s2,s3,s4,s5,s6⟩
theorem shut_op{E P m ah al bh bl ch cl:Int}(hi:(Lit.int .i64 E).wf=true∧(Lit.int .i64 P).wf=true∧(Lit.int .i64 m).wf=true)
 (s1:(Lit.int .u64 ah).wf=true) (s2:(Lit.int .u64 al).wf=true) (s3:(Lit.int .u64 bh).wf=true) (s4:(Lit.int .u64 bl).wf=true) (s5:(Lit.int .u64 ch).wf=true) (s6:(Lit.int .u64 cl).wf=true):
 DataW.Trod enc Tryz.prog w base sp held 28 (opV E P m ah al bh bl ch cl) (datO E P m ah al bh bl ch cl) []:=by
 obtain⟨i1,i2,i3⟩:=hi
 refine⟨3,?_⟩
 simp[DataW.trod,opV,datO,datW,datF,Value.cells,Tryz.underlying28,Tryz.underlying23,Tryz.underlying26,Tryz.underlying3,Tryz.underlying24,c3,c24,c26,c23,c28,i1,i2,i3,s1,s2,s3,s4,s5,s6,List.range,List.range.loop]
end
theorem wB_of{a b:Int}(h0:(Lit.int .u64 a).wf=true)(h1:(Lit.int .u64 b).wf=true):wB (wv a b)=true:=by
 have:=bounds_u64 h0
 have:=bounds_u64 h1
 show decide (0≤a∧a<18446744073709551616∧0≤b∧b<18446744073709551616)=true
 exact decide_eq_true ⟨by omega,by omega,by omega,by omega⟩
end Go.Proofs.YtedhbbjlbgpafaaGreatDoor
namespace Go.Proofs.YtedhbbjlbgpafaaGreatDoor.floatsWords
open Go.ChangeShapes Go.WideShapes Go.ChangeAt Go.RowKit Go.Canon
noncomputable def arg0:Value:=opV 0 0 0 0 0 0 0 0 0
noncomputable def laidWorld(os:Os):World:=
 {World.doorLaid Tryz.prog 77 os with heap:=(World.doorLaid Tryz.prog 77 os).heap.modify 7 fun
  |.cells _ t frozen=>.cells (Go.Pinned.utf8FirstZ.map fun(n:Nat)=>Value.int .u8 n).toArray t frozen
  |o=>o}
theorem laid_met(os:Os):laidMet Tryz.prog Rows.floatsWordsRow.laid ((laidWorld os).forCall (fun _ _=>0) ⟨#[], #[arg0],[]⟩).memory:=
 laidMet_of_run' 8 (by kernel_rfl) (by kernel_rfl)
theorem reads(os:Os){H:Type}(enc:TypeId×Value→H): ∃places,DataW.whole enc Tryz.prog ((laidWorld os).forCall (fun _ _=>0) ⟨#[], #[arg0],[]⟩).memory Tryz.f4.params.toList Rows.floatsWordsSpec.vars false #[arg0].toList 8=some ([datO 0 0 0 0 0 0 0 0 0],[],places):=
 ⟨[],by kernel_rfl⟩
end Go.Proofs.YtedhbbjlbgpafaaGreatDoor.floatsWords
namespace Go.Proofs.YtedhbbjlbgpafaaGreatDoor
open Go.RowKit Go.Shelf Go.Canon
def flipOf(E P X:Int):Int:=if signOf E P≤X then X-signOf E P else X+signOf E P
theorem flip_range{E P X:Int}(x0:0≤X)(x1:X<2*signOf E P):0≤flipOf E P X∧flipOf E P X<2*signOf E P:=by unfold flipOf;split<;>omega
def mwS(f:Int→Int→Int→Int)(xs:List Ar):Option Res:=match xs with
 |[.v a,.v b]=>match mach3 a with
  |some (E,P,_)=>some (⟨none,wordV (f E P (wX b))⟩:Res)
  |none=>none
 |_=>none
def mwP(xs:List Ar):Bool:=match xs with
 |[.v a,.v b]=>match mach3 a with
  |some (E,P,_)=>decide (Fmt E P)&&(wB b&&decide (wX b<2*signOf E P))
  |none=>false
 |_=>false
theorem mw_oracle{g:FuncId}{f:Int→Int→Int→Int}(hc: ∀{E P m X:Int},Fmt E P→0≤X→X<2*signOf E P→Con Tryz.prog TR g [.v (machV E P m),.v (wordV X)] ⟨none,wordV (f E P X)⟩):RunOkE Tryz.prog (oracle g (conSpec TR mwP (mwS f))):=con_oracle numG gTR roTR2 fun xs R h hp=>by
 unfold mwS at h
 split at h
 ·split at h
  ·rename_i E P m hm
   injection h with h
   subst h
   unfold mwP at hp
   simp only[hm,Bool.and_eq_true]at hp
   rw[mach3_ok hm]
   have:=hc (m:=m) (of_decide_eq_true hp.1) (wX_range hp.2.1).1 (of_decide_eq_true hp.2.2)
   rwa [←wB_eq hp.2.1]at this
  ·cases h
 ·cases h
def errV2(e:Int):Value:=.tuple #[.agg #[.int .u64 0,.int .u64 0],.int .i64 e]
def wErr(E P:Int)(l:List Int):Int:=if Fmt E P then(if l.all (fun X=>decide (X<2*signOf E P))=true then 0 else 6)else 2
theorem dk_t{E P X c:Int}(h:kindOf E P X=c):(dKind E P X==c)=true:=by unfold dKind;rw[wX_wordV,h];simp
theorem dk_f{E P X c:Int}(h: ¬kindOf E P X=c):(dKind E P X==c)=false:=by unfold dKind;rw[wX_wordV];simp[h]
theorem kind_range(E P X:Int):1≤kindOf E P X∧kindOf E P X≤5:=by
 unfold kindOf
 split
 ·omega
 ·split
  ·omega
  ·split
   ·omega
   ·split<;>omega
structure RdOk(E P X:Int):Prop where
 nr:(wB (wordV X)&&decide (0≤(IntKind.i64.wrap (E+P))∧(IntKind.i64.wrap (E+P))≤127))=true
 nd:X<2*signOf E P→(decide (Fmt E P)&&(wB (wordV X)&&decide (wX (wordV X)<2*signOf E P)))=true
 z0:X<2*signOf E P→(!decide (wX (wordV X)/2^(IntKind.i64.wrap (E+P)).toNat/18446744073709551616=0∧wX (wordV X)/2^(IntKind.i64.wrap (E+P)).toNat%18446744073709551616=0))=false
 z1: ¬X<2*signOf E P→(!decide (wX (wordV X)/2^(IntKind.i64.wrap (E+P)).toNat/18446744073709551616=0∧wX (wordV X)/2^(IntKind.i64.wrap (E+P)).toNat%18446744073709551616=0))=true
theorem rdOk{E P X:Int}(h:Fmt E P)(x0:0≤X)(x1:X<two128):RdOk E P X:=by
 have hs:=sign_range h
 have bX:wB (wordV X)=true:=wB_wordV x0 x1
 have hw:IntKind.i64.wrap (E+P)=E+P:=wrapI (by obtain⟨a,b,c,d,e⟩:=h;omega)
 have h2:(2:Int)^(E+P).toNat=2*signOf E P:=by
  obtain⟨a,b,c,d,e⟩:=h
  unfold signOf
  rw[show(E+P).toNat=(E+P-1).toNat+1 by omega,Int.pow_succ];omega
 have hr:0≤E+P∧E+P≤127:=by obtain⟨a,b,c,d,e⟩:=h;omega
 refine⟨by rw[bX,hw,decide_eq_true hr];rfl,fun hx=>by rw[bX,wX_wordV,decide_eq_true h,decide_eq_true hx];rfl,fun hx=>?_,fun hx=>?_⟩
 ·rw[hw,h2,wX_wordV,Int.ediv_eq_zero_of_lt x0 hx];rfl
 ·rw[hw,h2,wX_wordV]
  have:1≤X/(2*signOf E P):=Int.le_ediv_of_mul_le (by omega) (by omega)
  rw[decide_eq_false (by omega)];rfl
theorem all1{E P X:Int}:([X].all (fun X=>decide (X<2*signOf E P))=true)↔X<2*signOf E P:=by simp
theorem ground3(a b c:Value)(ha:ground 9 a=true)(hb:ground 9 b=true)(hc:ground 9 c=true): ∀x,Ar.v x∈ [Ar.v a,.v b,.v c]→ground 9 x=true:=fun x hx=>by
 simp at hx;rcases hx with rfl|rfl|rfl<;>assumption
theorem inB_op{E P X:Int}(h:Fmt E P)(x0:0≤X)(x1:X<2*signOf E P)(hk:kindOf E P X=1∨kindOf E P X=2):inB (opK E P X) (fineOf E P):=by
 have h1:=opK_lt h x0 x1 hk
 have h2:=max_sml h
 have hbr:=bias_range h.1 h.2.1
 have hf:=fine_le h
 have hfe:fineOf E P=1-biasOf E-P+1:=rfl
 have:=h.2.2.2.1
 exact⟨by omega,by omega,by omega,by omega⟩
theorem siz_flip{E P X:Int}(x0:0≤X)(x1:X<2*signOf E P):sizW E P (flipOf E P X)=sizW E P X:=by
 unfold sizW sizeOf' flipOf
 by_cases h:signOf E P≤X
 ·rw[if_pos h,if_pos (by omega),if_neg (by omega)]
 ·rw[if_neg h,if_neg (by omega),if_pos (by omega)];omega
theorem kind_flip{E P X:Int}(_:Fmt E P)(x0:0≤X)(x1:X<2*signOf E P):kindOf E P (flipOf E P X)=kindOf E P X:=by
 unfold kindOf;rw[siz_flip x0 x1]
def ordC:CF→St→Option (Value×St):=orElse unsignedO (orElse infinityO (orElse oneO (orElse minusO (orElse plusO signedO))))
theorem ordC_ok:RunOkE Tryz.prog ordC:=orElse_ok unsignedO_ok (orElse_ok infinityO_ok (orElse_ok oneO_ok (orElse_ok minusO_ok (orElse_ok plusO_ok signedO_ok))))
noncomputable def aboveRun(E P m X:Int)(an:List Bool)(n:Nat):Option (Value×Option CObj×List (Bool×Bool)):=conRun Tryz.prog TR ordC 1000 72 [.v (machV E P m),.v (wordV X)] an n
noncomputable def oppRun(E P m X:Int)(an:List Bool)(n:Nat):Option (Value×Option CObj×List (Bool×Bool)):=conRun Tryz.prog TR ordC 1000 73 [.v (machV E P m),.v (wordV X)] an n
def ab_z_cs(E P m X:Int)(na:Bool):List (Bool×Bool):=[(true,true),(true,true),(decide (dS E P X/18446744073709551616=0∧dS E P X%18446744073709551616=0),true),(true,true),((decide (signOf E P≤wX (wordV X))),na),(decide (Fmt E P)&&wB (wordV X),true)]
theorem ab_z(E P m X:Int)(na:Bool):aboveRun E P m X [na,true,true] 2=some (wordV 1,some (.fact 0),ab_z_cs E P m X na):=by kernel_rfl
def ab_n_cs(E P m X:Int):List (Bool×Bool):=[(true,true),(decide (Fmt E P)&&(wB (wordV ((wX (wordV (sizeOf' E P (wX (wordV X))))-wX (wordV 1))%two128))&&decide (wX (wordV ((wX (wordV (sizeOf' E P (wX (wordV X))))-wX (wordV 1))%two128))<signOf E P)),true),(wB (wordV (sizeOf' E P (wX (wordV X))))&&wB (wordV 1),true),(true,true),(decide (dS E P X/18446744073709551616=0∧dS E P X%18446744073709551616=0),false),(true,true),((decide (signOf E P≤wX (wordV X))),true),(decide (Fmt E P)&&wB (wordV X),true)]
theorem ab_n(E P m X:Int):aboveRun E P m X [true,false,true] 2=some (wordV (wX (wordV ((wX (wordV (sizeOf' E P (wX (wordV X))))-wX (wordV 1))%two128))+signOf E P),some (.fact 0),ab_n_cs E P m X):=by kernel_rfl
def ab_i_cs(E P m X:Int):List (Bool×Bool):=[(true,true),(eqW (dS E P X) (infOf E P),true),(decide (Fmt E P),true),(decide (dS E P X/18446744073709551616=0∧dS E P X%18446744073709551616=0),false),(true,true),((decide (signOf E P≤wX (wordV X))),false),(decide (Fmt E P)&&wB (wordV X),true)]
theorem ab_i(E P m X:Int):aboveRun E P m X [false,false,true,true] 2=some (wordV X,some (.fact 0),ab_i_cs E P m X):=by kernel_rfl
def ab_p_cs(E P m X:Int):List (Bool×Bool):=[(true,true),(wB (wordV (sizeOf' E P (wX (wordV X))))&&wB (wordV 1),true),(true,true),(eqW (dS E P X) (infOf E P),false),(decide (Fmt E P),true),(decide (dS E P X/18446744073709551616=0∧dS E P X%18446744073709551616=0),false),(true,true),((decide (signOf E P≤wX (wordV X))),false),(decide (Fmt E P)&&wB (wordV X),true)]
theorem ab_p(E P m X:Int):aboveRun E P m X [false,false,false,true] 2=some (wordV ((wX (wordV (sizeOf' E P (wX (wordV X))))+wX (wordV 1))%two128),some (.fact 0),ab_p_cs E P m X):=by kernel_rfl
def op_t_cs(E P m X:Int):List (Bool×Bool):=[(true,true),(decide (Fmt E P)&&(wB (wordV (sizeOf' E P (wX (wordV X))))&&decide (wX (wordV (sizeOf' E P (wX (wordV X))))<signOf E P)),true),(true,true),((decide (signOf E P≤wX (wordV X))),true),(decide (Fmt E P)&&wB (wordV X),true)]
theorem op_t(E P m X:Int):oppRun E P m X [true,true] 2=some (wordV (wX (wordV (sizeOf' E P (wX (wordV X))))),some (.fact 0),op_t_cs E P m X):=by kernel_rfl
def op_f_cs(E P m X:Int):List (Bool×Bool):=[(true,true),(decide (Fmt E P)&&(wB (wordV (sizeOf' E P (wX (wordV X))))&&decide (wX (wordV (sizeOf' E P (wX (wordV X))))<signOf E P)),true),(true,true),((decide (signOf E P≤wX (wordV X))),false),(decide (Fmt E P)&&wB (wordV X),true)]
theorem op_f(E P m X:Int):oppRun E P m X [false,true] 2=some (wordV (wX (wordV (sizeOf' E P (wX (wordV X))))+signOf E P),some (.fact 0),op_f_cs E P m X):=by kernel_rfl
def aboveOf(E P X:Int):Int:=if sizW E P X=0 then 1 else if negOf E P X=true then X-1 else if sizW E P X=infOf E P then X else X+1
theorem above_con{E P m X:Int}(h:Fmt E P)(x0:0≤X)(x1:X<2*signOf E P):Con Tryz.prog TR 72 [.v (machV E P m),.v (wordV X)] ⟨none,wordV (aboveOf E P X)⟩:=by
 have hs:=sign_range h
 have hi:=inf_range h
 have s0:0≤sizW E P X∧sizW E P X<signOf E P:=by unfold sizW sizeOf';split<;>omega
 have bX:wB (wordV X)=true:=wB_wordV x0 (by omega)
 have b1:wB (wordV 1)=true:=wB_wordV (by omega) (by rw[two128_eq];omega)
 have bS:wB (wordV (sizW E P X))=true:=wB_wordV s0.1 (by omega)
 have eS:dS E P X=sizW E P X:=by unfold dS;rw[wX_wordV];rfl
 have eS':sizeOf' E P X=sizW E P X:=rfl
 have eZ:decide (sizW E P X/18446744073709551616=0∧sizW E P X%18446744073709551616=0)=decide (sizW E P X=0):=by congr 1;apply propext;omega
 have g: ∀x,Ar.v x∈ [Ar.v (machV E P m),.v (wordV X)]→ground 9 x=true:=fun x hx=>by
  simp at hx;rcases hx with rfl|rfl<;>rfl
 unfold aboveOf
 by_cases hz:sizW E P X=0
 ·rw[if_pos hz]
  have dz:decide (sizW E P X=0)=true:=decide_eq_true hz
  exact con_plain ordC_ok (ab_z E P m X (decide (signOf E P≤X))) (by simp only[ab_z_cs,List.forall_mem_cons];(repeat' apply And.intro)<;>first|trivial|assumption|(intro c hc;cases hc)|(simp[h,bX,b1,eS,eZ,dz,wX_wordV];done)) (by simp) g rfl rfl
 ·rw[if_neg hz]
  have dz:decide (sizW E P X=0)=false:=decide_eq_false hz
  have dZ:decide (dS E P X/18446744073709551616=0∧dS E P X%18446744073709551616=0)=false:=by rw[eS,eZ,dz]
  by_cases hn:signOf E P≤X
  ·have hn':negOf E P X=true:=decide_eq_true hn
   have eX:sizW E P X=X-signOf E P:=by unfold sizW sizeOf';rw[if_neg (by omega)]
   have e1:(sizW E P X-1)%two128=sizW E P X-1:=Int.emod_eq_of_lt (by omega) (by omega)
   have b2:wB (wordV (sizW E P X-1))=true:=wB_wordV (by omega) (by omega)
   have l2:sizW E P X-1<signOf E P:=by omega
   rw[if_pos hn']
   exact con_plain ordC_ok (ab_n E P m X) (by simp only[ab_n_cs,List.forall_mem_cons];(repeat' apply And.intro)<;>first|trivial|assumption|(intro c hc;cases hc)|(simp[h,bX,b1,bS,b2,l2,e1,eS,eS',eZ,dz,wX_wordV,hn];done)) (by simp) g (by rw[wX_wordV,wX_wordV,wX_wordV,wX_wordV,eS',e1,show sizW E P X-1+signOf E P=X-1 by omega]) rfl
  ·have hn': ¬negOf E P X=true:=by unfold negOf;simpa using hn
   have eX:sizW E P X=X:=by unfold sizW sizeOf';rw[if_pos (by omega)]
   rw[if_neg hn']
   by_cases hI:sizW E P X=infOf E P
   ·rw[if_pos hI]
    have dI:eqW (dS E P X) (infOf E P)=true:=by rw[eqW_iff,eS];exact decide_eq_true hI
    exact con_plain ordC_ok (ab_i E P m X) (by simp only[ab_i_cs,List.forall_mem_cons];(repeat' apply And.intro)<;>first|trivial|assumption|(intro c hc;cases hc)|(simp[h,bX,eS,eS',eZ,dz,wX_wordV,hn,eqW_iff,hI];done)) (by simp) g rfl rfl
   ·rw[if_neg hI]
    have e1:(X+1)%two128=X+1:=Int.emod_eq_of_lt (by omega) (by omega)
    have dI:eqW (dS E P X) (infOf E P)=false:=by rw[eqW_iff,eS];exact decide_eq_false hI
    exact con_plain ordC_ok (ab_p E P m X) (by simp only[ab_p_cs,List.forall_mem_cons];(repeat' apply And.intro)<;>first|trivial|assumption|(intro c hc;cases hc)|(simp[h,bX,b1,bS,eS,eS',eZ,dz,wX_wordV,hn,eqW_iff,hI];done)) (by simp) g (by rw[wX_wordV,wX_wordV,wX_wordV,eS',eX,e1]) rfl
theorem opp_con{E P m X:Int}(h:Fmt E P)(x0:0≤X)(x1:X<2*signOf E P):Con Tryz.prog TR 73 [.v (machV E P m),.v (wordV X)] ⟨none,wordV (flipOf E P X)⟩:=by
 have hs:=sign_range h
 have s0:0≤sizW E P X∧sizW E P X<signOf E P:=by unfold sizW sizeOf';split<;>omega
 have bX:wB (wordV X)=true:=wB_wordV x0 (by omega)
 have bS:wB (wordV (sizW E P X))=true:=wB_wordV s0.1 (by omega)
 have eS':sizeOf' E P X=sizW E P X:=rfl
 have g: ∀x,Ar.v x∈ [Ar.v (machV E P m),.v (wordV X)]→ground 9 x=true:=fun x hx=>by
  simp at hx;rcases hx with rfl|rfl<;>rfl
 unfold flipOf
 by_cases hn:signOf E P≤X
 ·have eX:sizW E P X=X-signOf E P:=by unfold sizW sizeOf';rw[if_neg (by omega)]
  rw[if_pos hn]
  exact con_plain ordC_ok (op_t E P m X) (by simp only[op_t_cs,List.forall_mem_cons];(repeat' apply And.intro)<;>first|trivial|assumption|(intro c hc;cases hc)|(simp[h,bX,bS,s0.2,eS',wX_wordV,hn];done)) (by simp) g (by rw[wX_wordV,wX_wordV,eS',eX]) rfl
 ·have eX:sizW E P X=X:=by unfold sizW sizeOf';rw[if_pos (by omega)]
  rw[if_neg hn]
  exact con_plain ordC_ok (op_f E P m X) (by simp only[op_f_cs,List.forall_mem_cons];(repeat' apply And.intro)<;>first|trivial|assumption|(intro c hc;cases hc)|(simp[h,bX,bS,s0.2,eS',wX_wordV,hn];done)) (by simp) g (by rw[wX_wordV,wX_wordV,eS',eX]) rfl
theorem above_range{E P X:Int}(h:Fmt E P)(x0:0≤X)(x1:X<2*signOf E P)(hk:kindOf E P X=1∨kindOf E P X=2∨kindOf E P X=3):0≤aboveOf E P X∧aboveOf E P X<2*signOf E P:=by
 have hs:=sign_range h
 have hi:0<infOf E P∧infOf E P<signOf E P:=⟨(inf_range h).1,(inf_range h).2.1⟩
 have hq:=quiet_range h
 unfold aboveOf
 split
 ·omega
 ·rename_i hz
  split
  ·rename_i hn
   have:signOf E P≤X:=of_decide_eq_true hn
   omega
  ·rename_i hn
   have hn: ¬signOf E P≤X:=fun hc=>hn (decide_eq_true hc)
   split
   ·omega
   ·omega
def aboveO:CF→St→Option (Value×St):=oracle 72 (conSpec TR mwP (mwS aboveOf))
theorem aboveO_ok:RunOkE Tryz.prog aboveO:=mw_oracle above_con
def oppO:CF→St→Option (Value×St):=oracle 73 (conSpec TR mwP (mwS flipOf))
theorem oppO_ok:RunOkE Tryz.prog oppO:=mw_oracle opp_con
def nxC:CF→St→Option (Value×St):=orElse checkO (orElse rightO (orElse decodeO (orElse aboveO oppO)))
theorem nxC_ok:RunOkE Tryz.prog nxC:=orElse_ok checkO_ok (orElse_ok rightO_ok (orElse_ok decodeO_ok (orElse_ok aboveO_ok oppO_ok)))
noncomputable def nextRun(E P X:Int)(up:Bool)(an:List Bool)(n:Nat):Option (Value×Option CObj×List (Bool×Bool)):=conRun Tryz.prog TR (nest nxC 6) 1000 24 [.v (fmtV E P),.v (wordV X),.v (.bool up)] an n
def nx_u_cs(E P X:Int)(na:Bool):List (Bool×Bool):=[(true,true),(decide (Fmt E P)&&(wB (wordV X)&&decide (wX (wordV X)<2*signOf E P)),true),(dKind E P X==5,false),(true,true),(dKind E P X==4,false),(true,true),(true,true),(false,false),(false,false),(true,true),(true,true),(negOf E P (wX (wordV X)),na),(decide (Fmt E P)&&(wB (wordV X)&&decide (wX (wordV X)<2*signOf E P)),true),(!decide (wX (wordV X)/2^(IntKind.i64.wrap (E+P)).toNat/18446744073709551616=0∧wX (wordV X)/2^(IntKind.i64.wrap (E+P)).toNat%18446744073709551616=0),false),(wB (wordV X)&&decide (0≤(IntKind.i64.wrap (E+P))∧(IntKind.i64.wrap (E+P))≤127),true),(true,true),(true,true),(true,true),(true,true),(true,true),(false,false),(true,true),(true,true),(true,true),(false,false),(false,false),(chkE E P !=0,false),(true,true)]
theorem nx_u(E P X:Int)(na:Bool):nextRun E P X true [false,false,false,false,true,false,na,false,false,false,false,true] 2=some (.tuple #[wordV (aboveOf E P (wX (wordV X))),.int .i64 0],some (.fact 0),nx_u_cs E P X na):=by kernel_rfl
def nx_d_cs(E P X:Int)(na:Bool):List (Bool×Bool):=[(true,true),(decide (Fmt E P)&&(wB (wordV (aboveOf E P (wX (wordV (flipOf E P (wX (wordV X)))))))&&decide (wX (wordV (aboveOf E P (wX (wordV (flipOf E P (wX (wordV X)))))))<2*signOf E P)),true),(decide (Fmt E P)&&(wB (wordV (flipOf E P (wX (wordV X))))&&decide (wX (wordV (flipOf E P (wX (wordV X))))<2*signOf E P)),true),(decide (Fmt E P)&&(wB (wordV X)&&decide (wX (wordV X)<2*signOf E P)),true),(dKind E P X==5,false),(true,true),(dKind E P X==4,false),(true,true),(true,true),(false,false),(false,false),(true,true),(true,true),(negOf E P (wX (wordV X)),na),(decide (Fmt E P)&&(wB (wordV X)&&decide (wX (wordV X)<2*signOf E P)),true),(!decide (wX (wordV X)/2^(IntKind.i64.wrap (E+P)).toNat/18446744073709551616=0∧wX (wordV X)/2^(IntKind.i64.wrap (E+P)).toNat%18446744073709551616=0),false),(wB (wordV X)&&decide (0≤(IntKind.i64.wrap (E+P))∧(IntKind.i64.wrap (E+P))≤127),true),(true,true),(true,true),(true,true),(true,true),(true,true),(false,false),(true,true),(true,true),(true,true),(false,false),(false,false),(chkE E P !=0,false),(true,true)]
theorem nx_d(E P X:Int)(na:Bool):nextRun E P X false [false,false,false,false,true,false,na,false,false,false,false,true] 2=some (.tuple #[wordV (flipOf E P (wX (wordV (aboveOf E P (wX (wordV (flipOf E P (wX (wordV X))))))))),.int .i64 0],some (.fact 0),nx_d_cs E P X na):=by kernel_rfl
def nx_q1_cs(E P X:Int)(na:Bool):List (Bool×Bool):=[(true,true),(dKind E P X==4,true),(true,true),(true,true),(false,false),(false,false),(true,true),(true,true),(negOf E P (wX (wordV X)),na),(decide (Fmt E P)&&(wB (wordV X)&&decide (wX (wordV X)<2*signOf E P)),true),(!decide (wX (wordV X)/2^(IntKind.i64.wrap (E+P)).toNat/18446744073709551616=0∧wX (wordV X)/2^(IntKind.i64.wrap (E+P)).toNat%18446744073709551616=0),false),(wB (wordV X)&&decide (0≤(IntKind.i64.wrap (E+P))∧(IntKind.i64.wrap (E+P))≤127),true),(true,true),(true,true),(true,true),(true,true),(true,true),(false,false),(true,true),(true,true),(true,true),(false,false),(false,false),(chkE E P !=0,false),(true,true)]
theorem nx_q1(E P X:Int)(na:Bool):nextRun E P X true [false,false,false,false,true,false,na,false,false,true,true] 2=some (errV2 4,some (.fact 0),nx_q1_cs E P X na):=by kernel_rfl
def nx_s1_cs(E P X:Int)(na:Bool):List (Bool×Bool):=[(true,true),(dKind E P X==5,true),(true,true),(dKind E P X==4,false),(true,true),(true,true),(false,false),(false,false),(true,true),(true,true),(negOf E P (wX (wordV X)),na),(decide (Fmt E P)&&(wB (wordV X)&&decide (wX (wordV X)<2*signOf E P)),true),(!decide (wX (wordV X)/2^(IntKind.i64.wrap (E+P)).toNat/18446744073709551616=0∧wX (wordV X)/2^(IntKind.i64.wrap (E+P)).toNat%18446744073709551616=0),false),(wB (wordV X)&&decide (0≤(IntKind.i64.wrap (E+P))∧(IntKind.i64.wrap (E+P))≤127),true),(true,true),(true,true),(true,true),(true,true),(true,true),(false,false),(true,true),(true,true),(true,true),(false,false),(false,false),(chkE E P !=0,false),(true,true)]
theorem nx_s1(E P X:Int)(na:Bool):nextRun E P X true [false,false,false,false,true,false,na,false,false,false,true,true] 2=some (errV2 4,some (.fact 0),nx_s1_cs E P X na):=by kernel_rfl
def nx_x1_cs(E P X:Int):List (Bool×Bool):=[(true,true),(true,true),(!decide (wX (wordV X)/2^(IntKind.i64.wrap (E+P)).toNat/18446744073709551616=0∧wX (wordV X)/2^(IntKind.i64.wrap (E+P)).toNat%18446744073709551616=0),true),(wB (wordV X)&&decide (0≤(IntKind.i64.wrap (E+P))∧(IntKind.i64.wrap (E+P))≤127),true),(true,true),(true,true),(true,true),(true,true),(true,true),(false,false),(true,true),(true,true),(true,true),(false,false),(false,false),(chkE E P !=0,false),(true,true)]
theorem nx_x1(E P X:Int):nextRun E P X true [false,false,false,false,true,true,true,true] 2=some (errV2 6,some (.fact 0),nx_x1_cs E P X):=by kernel_rfl
def nx_e1_cs(E P X:Int):List (Bool×Bool):=[(true,true),(true,true),(true,true),(true,true),(true,true),(chkE E P !=0,true),(true,true)]
theorem nx_e1(E P X:Int):nextRun E P X true [true,true,true] 2=some (errV2 2,some (.fact 0),nx_e1_cs E P X):=by kernel_rfl
def nx_q0_cs(E P X:Int)(na:Bool):List (Bool×Bool):=[(true,true),(dKind E P X==4,true),(true,true),(true,true),(false,false),(false,false),(true,true),(true,true),(negOf E P (wX (wordV X)),na),(decide (Fmt E P)&&(wB (wordV X)&&decide (wX (wordV X)<2*signOf E P)),true),(!decide (wX (wordV X)/2^(IntKind.i64.wrap (E+P)).toNat/18446744073709551616=0∧wX (wordV X)/2^(IntKind.i64.wrap (E+P)).toNat%18446744073709551616=0),false),(wB (wordV X)&&decide (0≤(IntKind.i64.wrap (E+P))∧(IntKind.i64.wrap (E+P))≤127),true),(true,true),(true,true),(true,true),(true,true),(true,true),(false,false),(true,true),(true,true),(true,true),(false,false),(false,false),(chkE E P !=0,false),(true,true)]
theorem nx_q0(E P X:Int)(na:Bool):nextRun E P X false [false,false,false,false,true,false,na,false,false,true,true] 2=some (errV2 4,some (.fact 0),nx_q0_cs E P X na):=by kernel_rfl
def nx_s0_cs(E P X:Int)(na:Bool):List (Bool×Bool):=[(true,true),(dKind E P X==5,true),(true,true),(dKind E P X==4,false),(true,true),(true,true),(false,false),(false,false),(true,true),(true,true),(negOf E P (wX (wordV X)),na),(decide (Fmt E P)&&(wB (wordV X)&&decide (wX (wordV X)<2*signOf E P)),true),(!decide (wX (wordV X)/2^(IntKind.i64.wrap (E+P)).toNat/18446744073709551616=0∧wX (wordV X)/2^(IntKind.i64.wrap (E+P)).toNat%18446744073709551616=0),false),(wB (wordV X)&&decide (0≤(IntKind.i64.wrap (E+P))∧(IntKind.i64.wrap (E+P))≤127),true),(true,true),(true,true),(true,true),(true,true),(true,true),(false,false),(true,true),(true,true),(true,true),(false,false),(false,false),(chkE E P !=0,false),(true,true)]
theorem nx_s0(E P X:Int)(na:Bool):nextRun E P X false [false,false,false,false,true,false,na,false,false,false,true,true] 2=some (errV2 4,some (.fact 0),nx_s0_cs E P X na):=by kernel_rfl
def nx_x0_cs(E P X:Int):List (Bool×Bool):=[(true,true),(true,true),(!decide (wX (wordV X)/2^(IntKind.i64.wrap (E+P)).toNat/18446744073709551616=0∧wX (wordV X)/2^(IntKind.i64.wrap (E+P)).toNat%18446744073709551616=0),true),(wB (wordV X)&&decide (0≤(IntKind.i64.wrap (E+P))∧(IntKind.i64.wrap (E+P))≤127),true),(true,true),(true,true),(true,true),(true,true),(true,true),(false,false),(true,true),(true,true),(true,true),(false,false),(false,false),(chkE E P !=0,false),(true,true)]
theorem nx_x0(E P X:Int):nextRun E P X false [false,false,false,false,true,true,true,true] 2=some (errV2 6,some (.fact 0),nx_x0_cs E P X):=by kernel_rfl
def nx_e0_cs(E P X:Int):List (Bool×Bool):=[(true,true),(true,true),(true,true),(true,true),(true,true),(chkE E P !=0,true),(true,true)]
theorem nx_e0(E P X:Int):nextRun E P X false [true,true,true] 2=some (errV2 2,some (.fact 0),nx_e0_cs E P X):=by kernel_rfl
def nxE(E P X:Int):Int:=if wErr E P [X]=0 then(if kindOf E P X=4∨kindOf E P X=5 then 4 else 0)else wErr E P [X]
def nxW(E P X:Int)(up:Bool):Int:=if up=true then aboveOf E P X else flipOf E P (aboveOf E P (flipOf E P X))
def nxRes(E P X:Int)(up:Bool):Value:=if nxE E P X=0 then .tuple #[wordV (nxW E P X up),.int .i64 0]else errV2 (nxE E P X)
set_option maxHeartbeats 4000000 in
theorem next_word{E P X:Int}(up:Bool)(x0:0≤X)(x1:X<two128):Con Tryz.prog TR 24 [.v (fmtV E P),.v (wordV X),.v (.bool up)] ⟨none,nxRes E P X up⟩:=by
 have g:=ground3 (fmtV E P) (wordV X) (.bool up) rfl rfl rfl
 have ok:=nest_ok nxC_ok 6
 unfold nxRes nxE wErr nxW
 by_cases h:Fmt E P
 ·rw[if_pos h]
  have hc:(chkE E P !=0)=false:=by unfold chkE;rw[if_pos h];rfl
  obtain⟨nrX,ndX,zX,zX'⟩:=rdOk h x0 x1
  by_cases hX:X<2*signOf E P
  ·have ndX:=ndX hX
   have zX:=zX hX
   rw[if_pos (all1.2 hX),if_pos rfl]
   have kX:=kind_range E P X
   by_cases x4:kindOf E P X=4
   ·have d3:=dk_t x4
    rw[if_pos (show kindOf E P X=4∨kindOf E P X=5 from .inl x4),if_neg (by decide)]
    cases up
    ·exact con_plain ok (nx_q0 E P X (negOf E P (wX (wordV X)))) (by simp only[nx_q0_cs,List.forall_mem_cons];(repeat' apply And.intro)<;>first|with_reducible rfl|with_reducible assumption|(intro c hc;cases hc)|(simp[upK_same,wX_wordV];done)) (by simp) g rfl rfl
    ·exact con_plain ok (nx_q1 E P X (negOf E P (wX (wordV X)))) (by simp only[nx_q1_cs,List.forall_mem_cons];(repeat' apply And.intro)<;>first|with_reducible rfl|with_reducible assumption|(intro c hc;cases hc)|(simp[upK_same,wX_wordV];done)) (by simp) g rfl rfl
   have d3:=dk_f x4
   by_cases x5:kindOf E P X=5
   ·have d4:=dk_t x5
    rw[if_pos (show kindOf E P X=4∨kindOf E P X=5 from .inr x5),if_neg (by decide)]
    cases up
    ·exact con_plain ok (nx_s0 E P X (negOf E P (wX (wordV X)))) (by simp only[nx_s0_cs,List.forall_mem_cons];(repeat' apply And.intro)<;>first|with_reducible rfl|with_reducible assumption|(intro c hc;cases hc)|(simp[upK_same,wX_wordV];done)) (by simp) g rfl rfl
    ·exact con_plain ok (nx_s1 E P X (negOf E P (wX (wordV X)))) (by simp only[nx_s1_cs,List.forall_mem_cons];(repeat' apply And.intro)<;>first|with_reducible rfl|with_reducible assumption|(intro c hc;cases hc)|(simp[upK_same,wX_wordV];done)) (by simp) g rfl rfl
   have d4:=dk_f x5
   rw[if_neg (show¬(kindOf E P X=4∨kindOf E P X=5)by omega),if_pos rfl]
   cases up
   ·have hs:=sign_range h
    obtain⟨f0,f1⟩:=flip_range x0 hX
    have kf:kindOf E P (flipOf E P X)=kindOf E P X:=kind_flip h x0 hX
    obtain⟨a0,a1⟩:=above_range h f0 f1 (by omega)
    have n1:(decide (Fmt E P)&&(wB (wordV (flipOf E P (wX (wordV X))))&&decide (wX (wordV (flipOf E P (wX (wordV X))))<2*signOf E P)))=true:=by
     rw[wX_wordV,wX_wordV,decide_eq_true h,wB_wordV f0 (by omega),decide_eq_true f1];rfl
    have n2:(decide (Fmt E P)&&(wB (wordV (aboveOf E P (wX (wordV (flipOf E P (wX (wordV X)))))))&&decide (wX (wordV (aboveOf E P (wX (wordV (flipOf E P (wX (wordV X)))))))<2*signOf E P)))=true:=by
     rw[wX_wordV,wX_wordV,wX_wordV,decide_eq_true h,wB_wordV a0 (by omega),decide_eq_true a1];rfl
    exact con_plain ok (nx_d E P X (negOf E P (wX (wordV X)))) (by simp only[nx_d_cs,List.forall_mem_cons];(repeat' apply And.intro)<;>first|with_reducible rfl|with_reducible assumption|(intro c hc;cases hc)|(simp[upK_same,wX_wordV];done)) (by simp) g (by rw[wX_wordV,wX_wordV,wX_wordV];rfl) rfl
   ·exact con_plain ok (nx_u E P X (negOf E P (wX (wordV X)))) (by simp only[nx_u_cs,List.forall_mem_cons];(repeat' apply And.intro)<;>first|with_reducible rfl|with_reducible assumption|(intro c hc;cases hc)|(simp[upK_same,wX_wordV];done)) (by simp) g (by rw[wX_wordV];rfl) rfl
  ·have zX:=zX' hX
   rw[if_neg (fun hc=>hX (all1.1 hc)),if_neg (show¬(6:Int)=0 by decide),if_neg (show¬(6:Int)=0 by decide)]
   cases up
   ·exact con_plain ok (nx_x0 E P X) (by simp only[nx_x0_cs,List.forall_mem_cons];(repeat' apply And.intro)<;>first|with_reducible rfl|with_reducible assumption|(intro c hc;cases hc)|(simp[upK_same,wX_wordV];done)) (by simp) g rfl rfl
   ·exact con_plain ok (nx_x1 E P X) (by simp only[nx_x1_cs,List.forall_mem_cons];(repeat' apply And.intro)<;>first|with_reducible rfl|with_reducible assumption|(intro c hc;cases hc)|(simp[upK_same,wX_wordV];done)) (by simp) g rfl rfl
 ·rw[if_neg h,if_neg (show¬(2:Int)=0 by decide),if_neg (show¬(2:Int)=0 by decide)]
  have hc:(chkE E P !=0)=true:=by unfold chkE;rw[if_neg h];rfl
  cases up
  ·exact con_plain ok (nx_e0 E P X) (by simp only[nx_e0_cs,List.forall_mem_cons];(repeat' apply And.intro)<;>first|with_reducible rfl|with_reducible assumption|(intro c hc;cases hc)|(simp[upK_same,wX_wordV];done)) (by simp) g rfl rfl
  ·exact con_plain ok (nx_e1 E P X) (by simp only[nx_e1_cs,List.forall_mem_cons];(repeat' apply And.intro)<;>first|with_reducible rfl|with_reducible assumption|(intro c hc;cases hc)|(simp[upK_same,wX_wordV];done)) (by simp) g rfl rfl
def nW(E P X:Int)(up:Bool):Int:=if nxE E P X=0 then nxW E P X up else 0
def nxTup(E P X:Int)(up:Bool):Value:=.tuple #[wordV (nW E P X up),.int .i64 (nxE E P X)]
theorem nx_tup(E P X:Int)(up:Bool):nxRes E P X up=nxTup E P X up:=by
 unfold nxRes nxTup nW
 by_cases h:nxE E P X=0
 ·rw[if_pos h,if_pos h,h]
 ·rw[if_neg h,if_neg h];rfl
def nxFS(xs:List Ar):Option Res:=match xs with
 |[.v a,.v b,.v (.bool u)]=>match fmt2 a with
  |some (E,P)=>some (⟨none,.tuple #[wordV (nW E P (wX b) u),.int .i64 (nxE E P (wX b))]⟩:Res)
  |none=>none
 |_=>none
def nxFP(xs:List Ar):Bool:=match xs with
 |[.v _,.v b,.v (.bool _)]=>wB b
 |_=>false
theorem nx_oracle{g:FuncId}(hc: ∀{E P X:Int} (up:Bool),0≤X→X<two128→Con Tryz.prog TR g [.v (fmtV E P),.v (wordV X),.v (.bool up)] ⟨none,nxRes E P X up⟩):RunOkE Tryz.prog (oracle g (conSpec TR nxFP nxFS)):=con_oracle numG gTR roTR2 fun xs R h hp=>by
 unfold nxFS at h
 split at h
 ·split at h
  ·rename_i u _ E P hm
   injection h with h
   subst h
   unfold nxFP at hp
   simp only at hp
   rw[fmt2_ok hm]
   have h2:=wX_range hp
   have:=hc (E:=E) (P:=P) u h2.1 h2.2
   rw[←wB_eq hp,nx_tup]at this
   exact this
  ·cases h
 ·cases h
def mNextO:CF→St→Option (Value×St):=oracle 24 (conSpec TR nxFP nxFS)
theorem mNextO_ok:RunOkE Tryz.prog mNextO:=nx_oracle next_word
end Go.Proofs.YtedhbbjlbgpafaaGreatDoor
