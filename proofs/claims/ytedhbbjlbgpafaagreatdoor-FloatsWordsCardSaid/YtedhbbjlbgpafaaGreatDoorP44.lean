/-
  FloatsWords: what words, their neighbours and their places are (no program there).
-/
import Derived.Test.YtedhbbjlbgpafaaGreatDoorP43
import Derived.Test.YtedhbbjlbgpafaaGreatDoorCards
import Derived.Test.YtedhbbjlbgpafaaGreatDoorTie
import Derived.WalkKit
import Derived.ProofKit
import Derived.OpenShut
import Derived.Deep.DeepHandedRow
import Derived.Deep.DeepWitnessRowRef
import Derived.LaidMore
import Derived.Lib.LaidTab
set_option linter.unusedVariables false
set_option linter.unusedSimpArgs false
namespace Go.Proofs.YtedhbbjlbgpafaaGreatDoor
open Go.RowKit Go.Shelf Go.Canon
theorem siz_p{E P X:Int}(h:X<signOf E P):sizW E P X=X∧negOf E P X=false:=⟨by unfold sizW sizeOf';rw[if_pos h],decide_eq_false (by omega)⟩
theorem siz_n{E P X:Int}(h:signOf E P≤X):sizW E P X=X-signOf E P∧negOf E P X=true:=⟨by unfold sizW sizeOf';rw[if_neg (by omega)],decide_eq_true h⟩
theorem word_split{E P X:Int}:X=sizW E P X+(if negOf E P X=true then signOf E P else 0):=by
 by_cases h:signOf E P≤X
 ·rw[(siz_n h).1,(siz_n h).2,if_pos rfl];omega
 ·rw[(siz_p (show X<signOf E P by omega)).1,(siz_p (show X<signOf E P by omega)).2,if_neg (by decide)];omega
theorem kind_1{E P X:Int}(h:kindOf E P X=1):sizW E P X=0:=by
 unfold kindOf at h
 split at h
 ·assumption
 ·split at h
  ·omega
  ·split at h
   ·omega
   ·split at h<;>omega
theorem kind_3{E P X:Int}(h:kindOf E P X=3):sizW E P X=infOf E P:=by
 unfold kindOf at h
 split at h
 ·omega
 ·split at h
  ·assumption
  ·split at h
   ·omega
   ·split at h<;>omega
theorem kind_2{E P X:Int}(x0:0≤X)(x1:X<2*signOf E P)(h:kindOf E P X=2):0<sizW E P X∧sizW E P X<infOf E P:=by
 obtain⟨a,b⟩:=siz_range (E:=E) (P:=P) x0 x1
 have h2:=kind_two h
 have:sizW E P X≠0:=fun hz=>by unfold kindOf at h;rw[if_pos hz]at h;omega
 exact⟨by omega,h2⟩
theorem kind_nan{E P X:Int}(hF:Fmt E P)(h:kindOf E P X=4∨kindOf E P X=5):(kindOf E P X=4→quietOf E P≤sizW E P X)∧(kindOf E P X=5→infOf E P<sizW E P X∧sizW E P X<quietOf E P):=by
 unfold kindOf at h⊢
 split at h
 ·omega
 ·split at h
  ·omega
  ·split at h
   ·omega
   ·rename_i a b c
    rw[if_neg a,if_neg b,if_neg c]
    split at h
    ·rename_i d
     rw[if_pos d]
     exact⟨fun h=>by omega,fun _=>⟨by omega,d⟩⟩
    ·rename_i d
     rw[if_neg d]
     exact⟨fun _=>by omega,fun h=>by omega⟩
theorem kind_lt{E P X:Int}(h:sizW E P X≤infOf E P):kindOf E P X≠4∧kindOf E P X≠5:=by
 unfold kindOf
 split
 ·omega
 ·split
  ·omega
  ·rw[if_pos (by omega)];omega
theorem inf_sign{E P:Int}(h:Fmt E P):0<infOf E P∧infOf E P<quietOf E P∧quietOf E P<signOf E P∧2*signOf E P<two128:=⟨(inf_range h).1,(quiet_range h).1,(quiet_range h).2.1,(sign_range h).2⟩
theorem wErr0{E P X:Int}(h:Fmt E P)(x1:X<2*signOf E P):wErr E P [X]=0:=by unfold wErr;rw[if_pos h,if_pos (all1.2 x1)]
theorem nxE0{E P X:Int}(h:Fmt E P)(x1:X<2*signOf E P)(hk:sizW E P X≤infOf E P):nxE E P X=0:=by
 have:=kind_lt hk
 unfold nxE
 rw[wErr0 h x1,if_pos rfl,if_neg (by omega)]
theorem nxE4{E P X:Int}(h:Fmt E P)(x1:X<2*signOf E P)(hk:kindOf E P X=4∨kindOf E P X=5):nxE E P X=4:=by
 unfold nxE
 rw[wErr0 h x1,if_pos rfl,if_pos hk]
theorem nW_u{E P X:Int}(h:Fmt E P)(x1:X<2*signOf E P)(hk:sizW E P X≤infOf E P):nW E P X true=aboveOf E P X:=by
 unfold nW nxW;rw[nxE0 h x1 hk,if_pos rfl,if_pos rfl]
theorem nW_d{E P X:Int}(h:Fmt E P)(x1:X<2*signOf E P)(hk:sizW E P X≤infOf E P):nW E P X false=flipOf E P (aboveOf E P (flipOf E P X)):=by
 unfold nW nxW;rw[nxE0 h x1 hk,if_pos rfl,if_neg (by decide)]
theorem above_p{E P X:Int}(h:X<signOf E P)(h0:X≠0)(hi:X≠infOf E P):aboveOf E P X=X+1:=by
 obtain⟨a,b⟩:=siz_p (E:=E) (P:=P) h
 unfold aboveOf
 rw[a,b,if_neg h0,if_neg (by decide),if_neg hi]
theorem above_n{E P X:Int}(h:signOf E P<X):aboveOf E P X=X-1:=by
 obtain⟨a,b⟩:=siz_n (E:=E) (P:=P) (show signOf E P≤X by omega)
 unfold aboveOf
 rw[a,b,if_neg (by omega),if_pos rfl]
theorem above_0{E P X:Int}(h:sizW E P X=0):aboveOf E P X=1:=by unfold aboveOf;rw[if_pos h]
theorem above_i{E P:Int}(h:Fmt E P):aboveOf E P (infOf E P)=infOf E P:=by
 obtain⟨i0,i1,i2,i3⟩:=inf_sign h
 obtain⟨a,b⟩:=siz_p (E:=E) (P:=P) (show infOf E P<signOf E P by omega)
 unfold aboveOf
 rw[a,b,if_neg (by omega),if_neg (by decide),if_pos rfl]
theorem flip_p{E P X:Int}(h:X<signOf E P):flipOf E P X=X+signOf E P:=by unfold flipOf;rw[if_neg (by omega)]
theorem flip_n{E P X:Int}(h:signOf E P≤X):flipOf E P X=X-signOf E P:=by unfold flipOf;rw[if_pos h]
structure NxOk(E P X:Int):Prop where
 e0:nxE E P X=0
 e1:nxE E P (nW E P X true)=0
 u0:0≤nW E P X true
 u1:nW E P X true<2*signOf E P
theorem nx_fin{E P X:Int}(h:Fmt E P)(x0:0≤X)(x1:X<2*signOf E P)(hk:kindOf E P X=2):NxOk E P X∧nW E P (nW E P X true) false=X∧nW E P X true≠X:=by
 obtain⟨i0,i1,i2,i3⟩:=inf_sign h
 obtain⟨z0,z1⟩:=kind_2 x0 x1 hk
 have hu:=nW_u h x1 (show sizW E P X≤infOf E P by omega)
 have he:=nxE0 h x1 (show sizW E P X≤infOf E P by omega)
 by_cases hs:signOf E P≤X
 ·rw[(siz_n hs).1]at z0 z1
  rw[above_n (by omega)]at hu
  have s2:=(siz_n (E:=E) (P:=P) (X:=X-1) (by omega)).1
  have hd:=nW_d h (X:=X-1) (by omega) (by omega)
  rw[flip_n (show signOf E P≤X-1 by omega)]at hd
  refine⟨⟨he,by rw[hu];exact nxE0 h (by omega) (by omega),by omega,by omega⟩,?_,by omega⟩
  rw[hu,hd]
  by_cases hz:X-1-signOf E P=0
  ·rw[above_0 (by rw[(siz_p (show X-1-signOf E P<signOf E P by omega)).1];exact hz),flip_p (by omega)];omega
  ·rw[above_p (by omega) hz (by omega),flip_p (by omega)];omega
 ·rw[(siz_p (show X<signOf E P by omega)).1]at z0 z1
  rw[above_p (by omega) (by omega) (by omega)]at hu
  have s2:=(siz_p (E:=E) (P:=P) (X:=X+1) (by omega)).1
  have hd:=nW_d h (X:=X+1) (by omega) (by omega)
  rw[flip_p (show X+1<signOf E P by omega),above_n (by omega),flip_n (by omega)]at hd
  exact⟨⟨he,by rw[hu];exact nxE0 h (by omega) (by omega),by omega,by omega⟩,by rw[hu,hd];omega,by omega⟩
theorem nx_zero{E P X:Int}(h:Fmt E P)(x0:0≤X)(x1:X<2*signOf E P)(hk:kindOf E P X=1):NxOk E P X∧nW E P X true≠X:=by
 obtain⟨i0,i1,i2,i3⟩:=inf_sign h
 have hz:=kind_1 hk
 have hu:=nW_u h x1 (show sizW E P X≤infOf E P by omega)
 have he:=nxE0 h x1 (show sizW E P X≤infOf E P by omega)
 rw[above_0 hz]at hu
 have s1:=(siz_p (E:=E) (P:=P) (X:=1) (by omega)).1
 refine⟨⟨he,by rw[hu];exact nxE0 h (by omega) (by omega),by omega,by omega⟩,?_⟩
 rw[hu]
 by_cases hs:signOf E P≤X
 ·rw[(siz_n hs).1]at hz;omega
 ·rw[(siz_p (show X<signOf E P by omega)).1]at hz;omega
theorem nx_infp{E P X:Int}(h:Fmt E P)(x0:0≤X)(x1:X<2*signOf E P)(hk:kindOf E P X=3)(hn:negOf E P X=false):NxOk E P X∧nW E P X true=X:=by
 obtain⟨i0,i1,i2,i3⟩:=inf_sign h
 have hz:=kind_3 hk
 have hX:X=infOf E P:=by have:=word_split (E:=E) (P:=P) (X:=X);rw[hn,if_neg (by decide)]at this;omega
 have hu:=nW_u h x1 (show sizW E P X≤infOf E P by omega)
 have he:=nxE0 h x1 (show sizW E P X≤infOf E P by omega)
 rw[hX,above_i h,←hX]at hu
 exact⟨⟨he,by rw[hu];exact he,by omega,by omega⟩,hu⟩
theorem nx_infn{E P X:Int}(h:Fmt E P)(x0:0≤X)(x1:X<2*signOf E P)(hk:kindOf E P X=3)(hn:negOf E P X=true):NxOk E P X∧nW E P (nW E P X true) false=X∧nW E P X true≠X:=by
 obtain⟨i0,i1,i2,i3⟩:=inf_sign h
 have hz:=kind_3 hk
 have hX:X=infOf E P+signOf E P:=by have:=word_split (E:=E) (P:=P) (X:=X);rw[hn,if_pos rfl]at this;omega
 have hu:=nW_u h x1 (show sizW E P X≤infOf E P by omega)
 have he:=nxE0 h x1 (show sizW E P X≤infOf E P by omega)
 rw[above_n (by omega)]at hu
 have s2:=(siz_n (E:=E) (P:=P) (X:=X-1) (by omega)).1
 have hd:=nW_d h (X:=X-1) (by omega) (by omega)
 rw[flip_n (show signOf E P≤X-1 by omega)]at hd
 refine⟨⟨he,by rw[hu];exact nxE0 h (by omega) (by omega),by omega,by omega⟩,?_,by omega⟩
 rw[hu,hd]
 by_cases hz:X-1-signOf E P=0
 ·rw[above_0 (by rw[(siz_p (show X-1-signOf E P<signOf E P by omega)).1];exact hz),flip_p (by omega)];omega
 ·rw[above_p (by omega) hz (by omega),flip_p (by omega)];omega
theorem opK_nz{E P X:Int}(h:Fmt E P)(x0:0≤X)(x1:X<2*signOf E P)(hk:kindOf E P X=2):opK E P X=sgM (negOf E P X) (magOf P (sizW E P X))∧0<magOf P (sizW E P X):=by
 obtain⟨z0,z1⟩:=kind_2 x0 x1 hk
 exact⟨by unfold opK;rw[if_pos hk],mag_pos h.2.2.1 z0⟩
theorem rnd_word{E P m X:Int}(h:Fmt E P)(x0:0≤X)(x1:X<2*signOf E P)(hk:kindOf E P X=2):rndF E P m (opK E P X) (fineOf E P)=0∧rndW E P m (opK E P X) (fineOf E P)=X:=by
 obtain⟨o1,o2⟩:=opK_nz h x0 x1 hk
 have hz:opK E P X≠0:=by rw[o1];unfold sgM;split<;>omega
 obtain⟨d,e,f1,f2,f3,f4⟩:=val_form h x0 x1 (.inr hk)
 have hKl:=opK_lt h x0 x1 (.inr hk)
 obtain⟨r1,r2,r3,r4,r5⟩:=rnd_exact (m:=m) h hz f1 f3 hKl
 exact⟨r1,word_inj h r2 x0 r4 hk r5⟩
theorem opK_flp{E P X:Int}(h:Fmt E P)(x0:0≤X)(x1:X<2*signOf E P)(hk:kindOf E P X=1∨kindOf E P X=2):opK E P (flipOf E P X)= -opK E P X:=by
 unfold opK
 have hn:negOf E P (flipOf E P X)= !negOf E P X:=by
  by_cases hs:signOf E P≤X
  ·rw[flip_n hs,(siz_n hs).2,(siz_p (show X-signOf E P<signOf E P by omega)).2];rfl
  ·rw[flip_p (by omega),(siz_p (show X<signOf E P by omega)).2,(siz_n (show signOf E P≤X+signOf E P by omega)).2];rfl
 rw[kind_flip h x0 x1,siz_flip x0 x1,hn]
 rcases hk with hk|hk
 ·simp only[if_neg (show¬kindOf E P X=2 by omega),if_neg (show¬kindOf E P X=5 by omega),if_neg (show¬kindOf E P X=4 by omega)];rfl
 ·simp only[if_pos hk]
  unfold sgM
  cases negOf E P X<;>simp
theorem opK_1{E P X:Int}(hk:kindOf E P X=1):opK E P X=0:=by
 unfold opK;rw[if_neg (by omega),if_neg (by omega),if_neg (by omega)]
theorem plc_eq{E P X:Int}:plcOf E P X=if negOf E P X=true then-sizW E P X else sizW E P X:=by
 unfold plcOf
 by_cases hs:signOf E P≤X
 ·rw[if_pos hs,(siz_n hs).2,if_pos rfl];rfl
 ·rw[if_neg hs,(siz_p (show X<signOf E P by omega)).2,if_neg (by decide)];rfl
theorem plc_flp{E P X:Int}(x0:0≤X)(x1:X<2*signOf E P):plcOf E P (flipOf E P X)= -plcOf E P X:=by
 have hn:negOf E P (flipOf E P X)= !negOf E P X:=by
  by_cases hs:signOf E P≤X
  ·rw[flip_n hs,(siz_n hs).2,(siz_p (show X-signOf E P<signOf E P by omega)).2];rfl
  ·rw[flip_p (by omega),(siz_p (show X<signOf E P by omega)).2,(siz_n (show signOf E P≤X+signOf E P by omega)).2];rfl
 rw[plc_eq,plc_eq,hn,siz_flip x0 x1]
 cases negOf E P X<;>simp
theorem fst_word{E P X:Int}(h:Fmt E P)(x0:0≤X)(x1:X<2*signOf E P)(hk:kindOf E P X=1∨kindOf E P X=2):fstOf E P (opK E P X) (fineOf E P)=plcOf E P X∧0≤rndW E P 3 (opK E P X) (fineOf E P)∧rndW E P 3 (opK E P X) (fineOf E P)<2*signOf E P:=by
 have hs:=sign_range h
 rcases hk with hk|hk
 ·have hz:=kind_1 hk
  have e:rndW E P 3 (opK E P X) (fineOf E P)=0:=by rw[opK_1 hk];unfold rndW;rw[if_pos rfl]
  unfold fstOf
  rw[e]
  refine⟨?_,by omega,by omega⟩
  rw[plc_eq,plc_eq,hz,(siz_p (E:=E) (P:=P) (show(0:Int)<signOf E P by omega)).1]
  simp
 ·have e:=(rnd_word (m:=3) h x0 x1 hk).2
  unfold fstOf
  rw[e]
  exact⟨rfl,x0,x1⟩
theorem fstB_word{E P X:Int}(h:Fmt E P)(x0:0≤X)(x1:X<2*signOf E P)(hk:kindOf E P X=1∨kindOf E P X=2):fstB E P (opK E P X) (fineOf E P)=true:=by
 obtain⟨_,r0,r1⟩:=fst_word h x0 x1 hk
 have hb:=inB_op h x0 x1 hk
 have hbr:=bias_range h.1 h.2.1
 have hfe:fineOf E P=1-biasOf E-P+1:=rfl
 have:=h.2.2.2.1
 unfold fstB
 rw[decide_eq_true h,decide_eq_true ⟨hb,by omega⟩,decide_eq_true ⟨r0,r1⟩];rfl
theorem fstB_neg{E P X:Int}(h:Fmt E P)(x0:0≤X)(x1:X<2*signOf E P)(hk:kindOf E P X=1∨kindOf E P X=2):fstB E P (-opK E P X) (fineOf E P)=true∧lstOf E P (opK E P X) (fineOf E P)=plcOf E P X:=by
 obtain⟨f0,f1⟩:=flip_range (E:=E) (P:=P) x0 x1
 have hk2:kindOf E P (flipOf E P X)=1∨kindOf E P (flipOf E P X)=2:=by rw[kind_flip h x0 x1];exact hk
 have e:=opK_flp h x0 x1 hk
 refine⟨by rw[←e];exact fstB_word h f0 f1 hk2,?_⟩
 unfold lstOf
 rw[←e,(fst_word h f0 f1 hk2).1,plc_flp x0 x1,Int.neg_neg]
def ofP(P p:Int):Int:=if p<0 then-magOf P (-p)else magOf P p
theorem mag_0(P:Int):magOf P 0=0:=by unfold magOf digOf fieldOf;simp
theorem ofP_lt{P p q:Int}(hP:2≤P)(h:p<q):ofP P p<ofP P q:=by
 unfold ofP
 by_cases hp:p<0
 ·rw[if_pos hp]
  have m1:=mag_pos hP (show 0< -p by omega)
  by_cases hq:q<0
  ·rw[if_pos hq];have:=mag_lt hP (show 0≤ -q by omega) (show-q< -p by omega);omega
  ·rw[if_neg hq]
   by_cases h0:q=0
   ·rw[h0,mag_0];omega
   ·have:=mag_pos hP (show 0<q by omega);omega
 ·rw[if_neg hp,if_neg (by omega)];exact mag_lt hP (by omega) h
theorem opK_ofP{E P X:Int}(h:Fmt E P)(x0:0≤X)(x1:X<2*signOf E P)(hk:kindOf E P X=1∨kindOf E P X=2):opK E P X=ofP P (plcOf E P X):=by
 rw[plc_eq]
 rcases hk with hk|hk
 ·rw[opK_1 hk,kind_1 hk];unfold ofP;simp[mag_0]
 ·obtain⟨z0,z1⟩:=kind_2 x0 x1 hk
  rw[(opK_nz h x0 x1 hk).1]
  unfold sgM ofP
  cases negOf E P X
  ·simp;intro hc;omega
  ·simp;intro hc;omega
theorem plc_le{E P X Y:Int}(h:Fmt E P)(x0:0≤X)(x1:X<2*signOf E P)(kx:kindOf E P X=1∨kindOf E P X=2)(y0:0≤Y)(y1:Y<2*signOf E P)(ky:kindOf E P Y=1∨kindOf E P Y=2)(hle:opK E P X≤opK E P Y):plcOf E P X≤plcOf E P Y:=by
 apply Classical.byContradiction
 intro hc
 have:=ofP_lt h.2.2.1 (show plcOf E P Y<plcOf E P X by omega)
 rw[←opK_ofP h x0 x1 kx,←opK_ofP h y0 y1 ky]at this
 omega
theorem of_plc{E P X:Int}(h:Fmt E P)(x0:0≤X)(x1:X<2*signOf E P)(kx:kindOf E P X=1∨kindOf E P X=2):plcOf E P X<infOf E P∧(opK E P X=0→plcOf E P X=0)∧(opK E P X≠0→(if plcOf E P X<0 then-plcOf E P X+signOf E P else plcOf E P X)=X):=by
 obtain⟨i0,i1,i2,i3⟩:=inf_sign h
 have hw:=word_split (E:=E) (P:=P) (X:=X)
 rw[plc_eq]
 rcases kx with kx|kx
 ·have hz:=kind_1 kx
  rw[hz]
  exact⟨by split<;>omega,fun _=>by split<;>omega,fun hc=>absurd (opK_1 kx) hc⟩
 ·obtain⟨z0,z1⟩:=kind_2 x0 x1 kx
  obtain⟨o1,o2⟩:=opK_nz h x0 x1 kx
  cases hn:negOf E P X
  ·rw[hn]at hw o1
   rw[if_neg (by decide)]at hw
   rw[if_neg (by decide)]
   exact⟨by omega,fun hc=>by rw[o1]at hc;unfold sgM at hc;simp at hc;omega,fun _=>by rw[if_neg (by omega)];omega⟩
  ·rw[hn]at hw o1
   rw[if_pos rfl]at hw
   rw[if_pos rfl]
   exact⟨by omega,fun hc=>by rw[o1]at hc;unfold sgM at hc;simp at hc;omega,fun _=>by rw[if_pos (by omega)];omega⟩
theorem wv_half{h l:Int}(hB:wB (wv h l)=true):wX (wv h l)/18446744073709551616=h∧wX (wv h l)%18446744073709551616=l∧0≤wX (wv h l)∧wX (wv h l)<two128:=by
 obtain⟨r0,r1⟩:=wX_range hB
 have hb:0≤h∧h<18446744073709551616∧0≤l∧l<18446744073709551616:=by
  unfold wB wv at hB
  simpa using hB
 have e:wX (wv h l)=h*18446744073709551616+l:=by unfold wX wv;rfl
 rw[e]at r0 r1⊢
 exact⟨by omega,by omega,r0,r1⟩
theorem eqw{X W h l:Int}(h0:X/18446744073709551616=h)(h1:X%18446744073709551616=l)(e:W=X):decide (W/18446744073709551616=h∧W%18446744073709551616=l)=true:=by rw[e];exact decide_eq_true ⟨h0,h1⟩
theorem new{X W h l:Int}(h0:X/18446744073709551616=h)(h1:X%18446744073709551616=l)(e:W=X):(!decide (W/18446744073709551616=h∧W%18446744073709551616=l))=false:=by rw[eqw h0 h1 e];rfl
theorem eqwF{X W h l:Int}(h0:X/18446744073709551616=h)(h1:X%18446744073709551616=l)(e:W≠X):decide (W/18446744073709551616=h∧W%18446744073709551616=l)=false:=decide_eq_false fun⟨a,b⟩=>e (by omega)
theorem sg_ne(K:Int):(sgI K==0)=decide (K=0):=by
 unfold sgI
 by_cases h:K=0
 ·rw[if_pos h,decide_eq_true h];rfl
 ·rw[if_neg h,decide_eq_false h];split<;>rfl
theorem sg_nb(K:Int):(sgI K !=0)= !decide (K=0):=by
 unfold sgI
 by_cases h:K=0
 ·rw[if_pos h,decide_eq_true h];rfl
 ·rw[if_neg h,decide_eq_false h];split<;>rfl
theorem tail_facts{E P L H K K':Int}(h:Fmt E P)(l0:0≤L)(l1:L<2*signOf E P)(kl:kindOf E P L=1∨kindOf E P L=2)(h0:0≤H)(h1:H<2*signOf E P)(kh:kindOf E P H=1∨kindOf E P H=2)(eK:K=opK E P L)(eK':K'=opK E P H)(hle:K≤K'):
 cntB E P K K' (fineOf E P)=true∧((cntE E P K K' (fineOf E P)==3)=true∨(cntE E P K K' (fineOf E P)==3)=false∧(cntE E P K K' (fineOf E P)==0)=true∧decide ((cntI E P K K' (fineOf E P))>0)=true∧
  nthB E P K (fineOf E P) (IntKind.i64.wrap ((cntI E P K K' (fineOf E P))-1))=true∧(K'=0→nthW E P K (fineOf E P) (IntKind.i64.wrap ((cntI E P K K' (fineOf E P))-1))=0)∧(K'≠0→nthW E P K (fineOf E P) (IntKind.i64.wrap ((cntI E P K K' (fineOf E P))-1))=H)):=by
 subst eK eK'
 have f1:=fstB_word h l0 l1 kl
 obtain⟨f2,f3⟩:=fstB_neg h h0 h1 kh
 obtain⟨f4,_,_⟩:=fst_word h l0 l1 kl
 have hp:=plc_le h l0 l1 kl h0 h1 kh hle
 obtain⟨p1,p2,p3⟩:=of_plc h h0 h1 kh
 have hN:cntN E P (opK E P L) (opK E P H) (fineOf E P)=plcOf E P H-plcOf E P L+1:=by unfold cntN;rw[f3,f4]
 refine⟨?_,?_⟩
 ·unfold cntB
  rw[f1,f2,hN,decide_eq_true ⟨hle,by omega⟩];rfl
 ·unfold cntE cntI
  rw[hN]
  by_cases hb:plcOf E P H-plcOf E P L+1>4611686018427387904
  ·left;rw[if_pos hb];rfl
  ·right
   rw[if_neg hb,if_neg hb,show plcOf E P H-plcOf E P L+1-1=plcOf E P H-plcOf E P L by omega,wrapI (by omega)]
   have e:fstOf E P (opK E P L) (fineOf E P)+(plcOf E P H-plcOf E P L)=plcOf E P H:=by rw[f4];omega
   unfold nthB nthW
   rw[e,f1]
   refine⟨rfl,rfl,decide_eq_true (by omega),?_,fun hz=>?_,fun hz=>p3 hz⟩
   ·rw[decide_eq_true ⟨by omega,by omega,p1⟩];rfl
   ·rw[p2 hz];rfl
theorem py_range{E P X:Int}(h:Fmt E P)(x0:0≤X)(x1:X<2*signOf E P)(hk:kindOf E P X=4∨kindOf E P X=5):0≤pyK E P X∧pyK E P X<2^(P-2).toNat∧(kindOf E P X=4→quietOf E P+pyK E P X=sizW E P X)∧(kindOf E P X=5→infOf E P+pyK E P X=sizW E P X∧pyK E P X≠0):=by
 obtain⟨a,b⟩:=siz_range (E:=E) (P:=P) x0 x1
 obtain⟨n4,n5⟩:=kind_nan h hk
 have hP:=h.2.2.1
 have h2:(2:Int)^(P-1).toNat=2*2^(P-2).toNat:=by rw[show(P-1).toNat=(P-2).toNat+1 by omega,Int.pow_succ];omega
 unfold quietOf infOf at*
 unfold signOf at b
 unfold pyK
 rcases hk with hk|hk
 ·have:=n4 hk
  rw[if_neg (by omega)]
  unfold quietOf infOf
  exact⟨by omega,by omega,fun _=>by omega,fun hc=>by omega⟩
 ·have:=n5 hk
  rw[if_pos hk]
  unfold infOf
  exact⟨by omega,by omega,fun hc=>by omega,fun _=>⟨by omega,by omega⟩⟩
theorem p2mono{m n:Nat}(h:m≤n):(2:Int)^m≤2^n:=by
 obtain⟨c,rfl⟩: ∃c,n=m+c:=⟨n-m,by omega⟩
 rw[Int.pow_add]
 have h0:=p2pos m
 have h1:=p2pos c
 calc (2:Int)^m=2^m*1:=(Int.mul_one _).symm
  _≤2^m*2^c:=Int.mul_le_mul_of_nonneg_left (by omega) (by omega)
theorem p2lt{m n:Nat}(h:m<n):(2:Int)^m<2^n:=by
 have h1:=p2mono (show m+1≤n by omega)
 rw[Int.pow_succ]at h1
 have h0:=p2pos m
 omega
theorem wl_f{E P m ah al bh bl ch cl:Int}(hA:wB (wv ah al)=true)(hB:wB (wv bh bl)=true)(hF:Fmt E P)(x1:(wX (wv ah al))<2*signOf E P)(hk:kindOf E P (wX (wv ah al))=2):Con Tryz.prog TL 4 [.v (opV E P m ah al bh bl ch cl)] ⟨none,.bool true⟩:=by
 have g: ∀x,Ar.v x∈ [Ar.v (opV E P m ah al bh bl ch cl)]→ground 9 x=true:=fun x hx=>by
  simp at hx;subst hx;rfl
 obtain⟨hx,lx,x0,xM⟩:=wv_half hA
 have hi:=inf_sign hF
 obtain⟨i0,i1,i2,i3⟩:=hi
 have sz:=siz_range (E:=E) (P:=P) x0 x1
 have hw:=word_split (E:=E) (P:=P) (X:=(wX (wv ah al)))
 have pChk:((chkE E P !=0)=false):=by unfold chkE;rw[if_pos hF];rfl
 have pF:(decide (Fmt E P)=true):=decide_eq_true hF
 have pk1:((kindOf E P (wX (wv ah al))==1)=false):=by rw[hk];rfl
 have pk2:((kindOf E P (wX (wv ah al))==2)=true):=by rw[hk];rfl
 have pk3:((kindOf E P (wX (wv ah al))==3)=false):=by rw[hk];rfl
 have pk4:((kindOf E P (wX (wv ah al))==4)=false):=by rw[hk];rfl
 have pk5:((kindOf E P (wX (wv ah al))==5)=false):=by rw[hk];rfl
 have pD:((decide (Fmt E P)&&(wB (wv ah al)&&decide ((wX (wv ah al))<2*signOf E P)))=true):=by rw[pF,hA,decide_eq_true x1];rfl
 have pT:(decide (inT (opK E P (wX (wv ah al))) (fineOf E P))=true):=decide_eq_true (inT_word hF x0 x1)
 have rw0:=rnd_word (m:=0) hF x0 x1 hk
 obtain⟨r1,r2⟩:=rw0
 have oi:=inB_op hF x0 x1 (.inr hk)
 have fle:=fine_le hF
 have hbr:=bias_range hF.1 hF.2.1
 have hfe:fineOf E P=1-biasOf E-P+1:=rfl
 have hP4:=hF.2.2.2.1
 have pR:((decide (Fmt E P)&&(decide (0≤(0:Int)∧(0:Int)≤4)&&decide (inB (opK E P (wX (wv ah al))) (fineOf E P)∧ -40000≤(fineOf E P))))=true):=by rw[pF,decide_eq_true (show inB (opK E P (wX (wv ah al))) (fineOf E P)∧ -40000≤(fineOf E P)from⟨oi,by omega⟩)];rfl
 have pRF:((rndF E P 0 (opK E P (wX (wv ah al))) (fineOf E P)==0)=true):=by rw[r1];rfl
 have eR:(wX (wordV (rndW E P 0 (opK E P (wX (wv ah al))) (fineOf E P)))=(wX (wv ah al))):=by rw[wX_wordV,r2]
 have pRB:((decide (Fmt E P)&&wB (wordV (rndW E P 0 (opK E P (wX (wv ah al))) (fineOf E P))))=true):=by rw[pF,r2,wB_wordV x0 xM];rfl
 have pRS:(decide (signOf E P≤wX (wordV (rndW E P 0 (opK E P (wX (wv ah al))) (fineOf E P))))=negOf E P (wX (wv ah al))):=by rw[eR];rfl
 have onz:((opK E P (wX (wv ah al)))≠0):=by
  have q:=opK_nz hF x0 x1 hk
  rw[q.1]
  have:=q.2
  unfold sgM
  split<;>omega
 have pS0:((sgI (opK E P (wX (wv ah al))) !=0)=true):=by rw[sg_nb,decide_eq_false onz];rfl
 have pSn:(decide (sgI (opK E P (wX (wv ah al)))<0)=negOf E P (wX (wv ah al))):=by
  rw[sg_lt,(opK_nz hF x0 x1 hk).1]
  have:=(opK_nz hF x0 x1 hk).2
  unfold sgM
  cases negOf E P (wX (wv ah al))
  ·rw[if_neg (by decide)];exact decide_eq_false (by omega)
  ·rw[if_pos rfl];exact decide_eq_true (by omega)
 have pSV:((decide (Fmt E P)&&(wB (wordV (sizeOf' E P (wX (wordV (rndW E P 0 (opK E P (wX (wv ah al))) (fineOf E P))))))&&decide (wX (wordV (sizeOf' E P (wX (wordV (rndW E P 0 (opK E P (wX (wv ah al))) (fineOf E P))))))<signOf E P)))=true):=by
  rw[eR,wX_wordV,wB_wordV (X:=sizeOf' E P (wX (wv ah al))) sz.1 (by have:=sz.2;unfold sizW at this;omega),pF,decide_eq_true (show sizeOf' E P (wX (wv ah al))<signOf E P from sz.2)];rfl
 have pNe:((!decide ((wX (wordV (sizeOf' E P (wX (wordV (rndW E P 0 (opK E P (wX (wv ah al))) (fineOf E P))))))+(if negOf E P (wX (wv ah al))=true then signOf E P else 0))/18446744073709551616=ah∧(wX (wordV (sizeOf' E P (wX (wordV (rndW E P 0 (opK E P (wX (wv ah al))) (fineOf E P))))))+(if negOf E P (wX (wv ah al))=true then signOf E P else 0))%18446744073709551616=al))=false):=by
  refine new hx lx ?_
  rw[eR,wX_wordV];exact hw.symm
 obtain⟨⟨e0,e1,u0,u1⟩,nb,nu⟩:=nx_fin hF x0 x1 hk
 have pUB:(wB (wordV (nW E P (wX (wv ah al)) true))=true):=wB_wordV u0 (by omega)
 have pE0:((nxE E P (wX (wv ah al)) !=0)=false):=by rw[e0];rfl
 have pE1:((nxE E P (wX (wordV (nW E P (wX (wv ah al)) true))) !=0)=false):=by rw[wX_wordV,e1];rfl
 have pBk:((!decide ((nW E P (wX (wordV (nW E P (wX (wv ah al)) true))) false)/18446744073709551616=ah∧(nW E P (wX (wordV (nW E P (wX (wv ah al)) true))) false)%18446744073709551616=al))=false):=new hx lx (by rw[wX_wordV];exact nb)
 have pUp:(decide ((nW E P (wX (wv ah al)) true)/18446744073709551616=ah∧(nW E P (wX (wv ah al)) true)%18446744073709551616=al)=false):=eqwF hx lx nu
 obtain⟨hy,ly,y0,yM⟩:=wv_half hB
 obtain⟨v1,v2⟩:=vErr_of hF x1 (.inr hk)
 have pVX:((vErr E P (wX (wv ah al))==0)=true):=by rw[v1];rfl
 by_cases hv:vErr E P (wX (wv bh bl))=0
 ·obtain⟨_,y1,ky,w2⟩:=vErr_zero hv
  have pVY:((vErr E P (wX (wv bh bl))==0)=true):=by rw[hv];rfl
  have ox:=inB_op hF x0 x1 (.inr hk)
  have oy:=inB_op hF y0 y1 ky
  have pI:((decide (inB (upK (vK E P (wX (wv ah al))) (fineOf E P) (fineOf E P)) (min (fineOf E P) (fineOf E P)))&&decide (inB (upK (vK E P (wX (wv bh bl))) (fineOf E P) (fineOf E P)) (min (fineOf E P) (fineOf E P))))=true):=by rw[upK_same,upK_same,Int.min_self,v2,w2,decide_eq_true ox,decide_eq_true oy];rfl
  by_cases hc:(vK E P (wX (wv bh bl)))<(vK E P (wX (wv ah al)))
  ·have pC:(decide (cmpI (upK (vK E P (wX (wv ah al))) (fineOf E P) (fineOf E P)) (upK (vK E P (wX (wv bh bl))) (fineOf E P) (fineOf E P))>0)=true):=by rw[upK_same,upK_same,cmpI_gt hc];rfl
   obtain⟨t1,t2⟩:=tail_facts hF y0 y1 ky x0 x1 (.inr hk) w2 v2 (show(vK E P (wX (wv bh bl)))≤(vK E P (wX (wv ah al)))by omega)
   rcases t2 with t2|⟨t2,t3,t4,t5,t6,t7⟩
   ·exact con_of_run numG noCountP mixedP gTL roTL sizeP (nest_ok wrC_ok 3) (by simp) g (wr_f_glong E P m ah al bh bl ch cl (negOf E P (wX (wv ah al)))) (by simp only[wr_f_glong_cs,List.forall_mem_cons];(repeat' apply And.intro)<;>first|exact True.intro|with_reducible rfl|with_reducible assumption|(intro c hc;cases hc)|(simp[t1];done)) ⟨rfl,rfl⟩
   ·have hz:(vK E P (wX (wv ah al)))≠0:=by rw[v2];exact onz
    have pZ:((sgI (vK E P (wX (wv ah al)))==0)=false):=by rw[sg_ne,decide_eq_false hz]
    have pN:(decide ((nthW E P (vK E P (wX (wv bh bl))) (fineOf E P) (IntKind.i64.wrap ((cntI E P (vK E P (wX (wv bh bl))) (vK E P (wX (wv ah al))) (fineOf E P))-1)))/18446744073709551616=ah∧(nthW E P (vK E P (wX (wv bh bl))) (fineOf E P) (IntKind.i64.wrap ((cntI E P (vK E P (wX (wv bh bl))) (vK E P (wX (wv ah al))) (fineOf E P))-1)))%18446744073709551616=al)=true):=eqw hx lx (t7 hz)
    exact con_of_run numG noCountP mixedP gTL roTL sizeP (nest_ok wrC_ok 3) (by simp) g (wr_f_gnz E P m ah al bh bl ch cl (negOf E P (wX (wv ah al)))) (by simp only[wr_f_gnz_cs,List.forall_mem_cons];(repeat' apply And.intro)<;>first|exact True.intro|with_reducible rfl|with_reducible assumption|(intro c hc;cases hc)|(simp[t1];done)) ⟨rfl,rfl⟩
  ·have pC:(decide (cmpI (upK (vK E P (wX (wv ah al))) (fineOf E P) (fineOf E P)) (upK (vK E P (wX (wv bh bl))) (fineOf E P) (fineOf E P))>0)=false):=by
    rw[upK_same,upK_same]
    exact decide_eq_false fun hq=>by unfold cmpI at hq;split at hq<;>(try split at hq)<;>omega
   obtain⟨t1,t2⟩:=tail_facts hF x0 x1 (.inr hk) y0 y1 ky v2 w2 (show(vK E P (wX (wv ah al)))≤(vK E P (wX (wv bh bl)))by omega)
   rcases t2 with t2|⟨t2,t3,t4,t5,t6,t7⟩
   ·exact con_of_run numG noCountP mixedP gTL roTL sizeP (nest_ok wrC_ok 3) (by simp) g (wr_f_llong E P m ah al bh bl ch cl (negOf E P (wX (wv ah al)))) (by simp only[wr_f_llong_cs,List.forall_mem_cons];(repeat' apply And.intro)<;>first|exact True.intro|with_reducible rfl|with_reducible assumption|(intro c hc;cases hc)|(simp[t1];done)) ⟨rfl,rfl⟩
   ·by_cases hz:(vK E P (wX (wv bh bl)))=0
    ·have pZ:((sgI (vK E P (wX (wv bh bl)))==0)=true):=by rw[hz];rfl
     have pN:(decide ((nthW E P (vK E P (wX (wv ah al))) (fineOf E P) (IntKind.i64.wrap ((cntI E P (vK E P (wX (wv ah al))) (vK E P (wX (wv bh bl))) (fineOf E P))-1)))/18446744073709551616=0∧(nthW E P (vK E P (wX (wv ah al))) (fineOf E P) (IntKind.i64.wrap ((cntI E P (vK E P (wX (wv ah al))) (vK E P (wX (wv bh bl))) (fineOf E P))-1)))%18446744073709551616=0)=true):=by rw[t6 hz];rfl
     exact con_of_run numG noCountP mixedP gTL roTL sizeP (nest_ok wrC_ok 3) (by simp) g (wr_f_lz E P m ah al bh bl ch cl (negOf E P (wX (wv ah al)))) (by simp only[wr_f_lz_cs,List.forall_mem_cons];(repeat' apply And.intro)<;>first|exact True.intro|with_reducible rfl|with_reducible assumption|(intro c hc;cases hc)|(simp[t1];done)) ⟨rfl,rfl⟩
    ·have pZ:((sgI (vK E P (wX (wv bh bl)))==0)=false):=by rw[sg_ne,decide_eq_false hz]
     have pN:(decide ((nthW E P (vK E P (wX (wv ah al))) (fineOf E P) (IntKind.i64.wrap ((cntI E P (vK E P (wX (wv ah al))) (vK E P (wX (wv bh bl))) (fineOf E P))-1)))/18446744073709551616=bh∧(nthW E P (vK E P (wX (wv ah al))) (fineOf E P) (IntKind.i64.wrap ((cntI E P (vK E P (wX (wv ah al))) (vK E P (wX (wv bh bl))) (fineOf E P))-1)))%18446744073709551616=bl)=true):=eqw hy ly (t7 hz)
     exact con_of_run numG noCountP mixedP gTL roTL sizeP (nest_ok wrC_ok 3) (by simp) g (wr_f_lnz E P m ah al bh bl ch cl (negOf E P (wX (wv ah al)))) (by simp only[wr_f_lnz_cs,List.forall_mem_cons];(repeat' apply And.intro)<;>first|exact True.intro|with_reducible rfl|with_reducible assumption|(intro c hc;cases hc)|(simp[t1];done)) ⟨rfl,rfl⟩
 ·have pVY:((vErr E P (wX (wv bh bl))==0)=false):=by simpa using hv
  exact con_of_run numG noCountP mixedP gTL roTL sizeP (nest_ok wrC_ok 3) (by simp) g (wr_f_nb E P m ah al bh bl ch cl (negOf E P (wX (wv ah al)))) (by simp only[wr_f_nb_cs,List.forall_mem_cons];(repeat' apply And.intro)<;>first|exact True.intro|with_reducible rfl|with_reducible assumption|(intro c hc;cases hc)|(simp[];done)) ⟨rfl,rfl⟩
theorem wl_z{E P m ah al bh bl ch cl:Int}(hA:wB (wv ah al)=true)(hB:wB (wv bh bl)=true)(hF:Fmt E P)(x1:(wX (wv ah al))<2*signOf E P)(hk:kindOf E P (wX (wv ah al))=1):Con Tryz.prog TL 4 [.v (opV E P m ah al bh bl ch cl)] ⟨none,.bool true⟩:=by
 have g: ∀x,Ar.v x∈ [Ar.v (opV E P m ah al bh bl ch cl)]→ground 9 x=true:=fun x hx=>by
  simp at hx;subst hx;rfl
 obtain⟨hx,lx,x0,xM⟩:=wv_half hA
 have hi:=inf_sign hF
 obtain⟨i0,i1,i2,i3⟩:=hi
 have sz:=siz_range (E:=E) (P:=P) x0 x1
 have hw:=word_split (E:=E) (P:=P) (X:=(wX (wv ah al)))
 have pChk:((chkE E P !=0)=false):=by unfold chkE;rw[if_pos hF];rfl
 have pF:(decide (Fmt E P)=true):=decide_eq_true hF
 have pk1:((kindOf E P (wX (wv ah al))==1)=true):=by rw[hk];rfl
 have pk2:((kindOf E P (wX (wv ah al))==2)=false):=by rw[hk];rfl
 have pk3:((kindOf E P (wX (wv ah al))==3)=false):=by rw[hk];rfl
 have pk4:((kindOf E P (wX (wv ah al))==4)=false):=by rw[hk];rfl
 have pk5:((kindOf E P (wX (wv ah al))==5)=false):=by rw[hk];rfl
 have pD:((decide (Fmt E P)&&(wB (wv ah al)&&decide ((wX (wv ah al))<2*signOf E P)))=true):=by rw[pF,hA,decide_eq_true x1];rfl
 have pT:(decide (inT (opK E P (wX (wv ah al))) (fineOf E P))=true):=decide_eq_true (inT_word hF x0 x1)
 have pS0:((sgI (opK E P (wX (wv ah al)))==0)=true):=by rw[opK_1 hk];rfl
 have z0:(wX zeroW=0):=rfl
 have pSV:((decide (Fmt E P)&&(wB zeroW&&decide (wX zeroW<signOf E P)))=true):=by rw[pF,z0,decide_eq_true (show(0:Int)<signOf E P by omega)];rfl
 have pNe:((!decide ((wX zeroW+(if negOf E P (wX (wv ah al))=true then signOf E P else 0))/18446744073709551616=ah∧(wX zeroW+(if negOf E P (wX (wv ah al))=true then signOf E P else 0))%18446744073709551616=al))=false):=by
  refine new hx lx ?_
  rw[z0]
  have:=kind_1 hk
  omega
 obtain⟨⟨e0,e1,u0,u1⟩,nu⟩:=nx_zero hF x0 x1 hk
 have pUB:(wB (wordV (nW E P (wX (wv ah al)) true))=true):=wB_wordV u0 (by omega)
 have pE0:((nxE E P (wX (wv ah al)) !=0)=false):=by rw[e0];rfl
 have pE1:((nxE E P (wX (wordV (nW E P (wX (wv ah al)) true))) !=0)=false):=by rw[wX_wordV,e1];rfl
 have pUp:(decide ((nW E P (wX (wv ah al)) true)/18446744073709551616=ah∧(nW E P (wX (wv ah al)) true)%18446744073709551616=al)=false):=eqwF hx lx nu
 obtain⟨hy,ly,y0,yM⟩:=wv_half hB
 obtain⟨v1,v2⟩:=vErr_of hF x1 (.inl hk)
 have pVX:((vErr E P (wX (wv ah al))==0)=true):=by rw[v1];rfl
 by_cases hv:vErr E P (wX (wv bh bl))=0
 ·obtain⟨_,y1,ky,w2⟩:=vErr_zero hv
  have pVY:((vErr E P (wX (wv bh bl))==0)=true):=by rw[hv];rfl
  have ox:=inB_op hF x0 x1 (.inl hk)
  have oy:=inB_op hF y0 y1 ky
  have pI:((decide (inB (upK (vK E P (wX (wv ah al))) (fineOf E P) (fineOf E P)) (min (fineOf E P) (fineOf E P)))&&decide (inB (upK (vK E P (wX (wv bh bl))) (fineOf E P) (fineOf E P)) (min (fineOf E P) (fineOf E P))))=true):=by rw[upK_same,upK_same,Int.min_self,v2,w2,decide_eq_true ox,decide_eq_true oy];rfl
  by_cases hc:(vK E P (wX (wv bh bl)))<(vK E P (wX (wv ah al)))
  ·have pC:(decide (cmpI (upK (vK E P (wX (wv ah al))) (fineOf E P) (fineOf E P)) (upK (vK E P (wX (wv bh bl))) (fineOf E P) (fineOf E P))>0)=true):=by rw[upK_same,upK_same,cmpI_gt hc];rfl
   obtain⟨t1,t2⟩:=tail_facts hF y0 y1 ky x0 x1 (.inl hk) w2 v2 (show(vK E P (wX (wv bh bl)))≤(vK E P (wX (wv ah al)))by omega)
   rcases t2 with t2|⟨t2,t3,t4,t5,t6,t7⟩
   ·exact con_of_run numG noCountP mixedP gTL roTL sizeP (nest_ok wrC_ok 3) (by simp) g (wr_z_glong E P m ah al bh bl ch cl (negOf E P (wX (wv ah al)))) (by simp only[wr_z_glong_cs,List.forall_mem_cons];(repeat' apply And.intro)<;>first|exact True.intro|with_reducible rfl|with_reducible assumption|(intro c hc;cases hc)|(simp[t1];done)) ⟨rfl,rfl⟩
   ·have hz:(vK E P (wX (wv ah al)))=0:=by rw[v2];exact opK_1 hk
    have pZ:((sgI (vK E P (wX (wv ah al)))==0)=true):=by rw[hz];rfl
    have pN:(decide ((nthW E P (vK E P (wX (wv bh bl))) (fineOf E P) (IntKind.i64.wrap ((cntI E P (vK E P (wX (wv bh bl))) (vK E P (wX (wv ah al))) (fineOf E P))-1)))/18446744073709551616=0∧(nthW E P (vK E P (wX (wv bh bl))) (fineOf E P) (IntKind.i64.wrap ((cntI E P (vK E P (wX (wv bh bl))) (vK E P (wX (wv ah al))) (fineOf E P))-1)))%18446744073709551616=0)=true):=by rw[t6 hz];rfl
    exact con_of_run numG noCountP mixedP gTL roTL sizeP (nest_ok wrC_ok 3) (by simp) g (wr_z_gz E P m ah al bh bl ch cl (negOf E P (wX (wv ah al)))) (by simp only[wr_z_gz_cs,List.forall_mem_cons];(repeat' apply And.intro)<;>first|exact True.intro|with_reducible rfl|with_reducible assumption|(intro c hc;cases hc)|(simp[t1];done)) ⟨rfl,rfl⟩
  ·have pC:(decide (cmpI (upK (vK E P (wX (wv ah al))) (fineOf E P) (fineOf E P)) (upK (vK E P (wX (wv bh bl))) (fineOf E P) (fineOf E P))>0)=false):=by
    rw[upK_same,upK_same]
    exact decide_eq_false fun hq=>by unfold cmpI at hq;split at hq<;>(try split at hq)<;>omega
   obtain⟨t1,t2⟩:=tail_facts hF x0 x1 (.inl hk) y0 y1 ky v2 w2 (show(vK E P (wX (wv ah al)))≤(vK E P (wX (wv bh bl)))by omega)
   rcases t2 with t2|⟨t2,t3,t4,t5,t6,t7⟩
   ·exact con_of_run numG noCountP mixedP gTL roTL sizeP (nest_ok wrC_ok 3) (by simp) g (wr_z_llong E P m ah al bh bl ch cl (negOf E P (wX (wv ah al)))) (by simp only[wr_z_llong_cs,List.forall_mem_cons];(repeat' apply And.intro)<;>first|exact True.intro|with_reducible rfl|with_reducible assumption|(intro c hc;cases hc)|(simp[t1];done)) ⟨rfl,rfl⟩
   ·by_cases hz:(vK E P (wX (wv bh bl)))=0
    ·have pZ:((sgI (vK E P (wX (wv bh bl)))==0)=true):=by rw[hz];rfl
     have pN:(decide ((nthW E P (vK E P (wX (wv ah al))) (fineOf E P) (IntKind.i64.wrap ((cntI E P (vK E P (wX (wv ah al))) (vK E P (wX (wv bh bl))) (fineOf E P))-1)))/18446744073709551616=0∧(nthW E P (vK E P (wX (wv ah al))) (fineOf E P) (IntKind.i64.wrap ((cntI E P (vK E P (wX (wv ah al))) (vK E P (wX (wv bh bl))) (fineOf E P))-1)))%18446744073709551616=0)=true):=by rw[t6 hz];rfl
     exact con_of_run numG noCountP mixedP gTL roTL sizeP (nest_ok wrC_ok 3) (by simp) g (wr_z_lz E P m ah al bh bl ch cl (negOf E P (wX (wv ah al)))) (by simp only[wr_z_lz_cs,List.forall_mem_cons];(repeat' apply And.intro)<;>first|exact True.intro|with_reducible rfl|with_reducible assumption|(intro c hc;cases hc)|(simp[t1];done)) ⟨rfl,rfl⟩
    ·have pZ:((sgI (vK E P (wX (wv bh bl)))==0)=false):=by rw[sg_ne,decide_eq_false hz]
     have pN:(decide ((nthW E P (vK E P (wX (wv ah al))) (fineOf E P) (IntKind.i64.wrap ((cntI E P (vK E P (wX (wv ah al))) (vK E P (wX (wv bh bl))) (fineOf E P))-1)))/18446744073709551616=bh∧(nthW E P (vK E P (wX (wv ah al))) (fineOf E P) (IntKind.i64.wrap ((cntI E P (vK E P (wX (wv ah al))) (vK E P (wX (wv bh bl))) (fineOf E P))-1)))%18446744073709551616=bl)=true):=eqw hy ly (t7 hz)
     exact con_of_run numG noCountP mixedP gTL roTL sizeP (nest_ok wrC_ok 3) (by simp) g (wr_z_lnz E P m ah al bh bl ch cl (negOf E P (wX (wv ah al)))) (by simp only[wr_z_lnz_cs,List.forall_mem_cons];(repeat' apply And.intro)<;>first|exact True.intro|with_reducible rfl|with_reducible assumption|(intro c hc;cases hc)|(simp[t1];done)) ⟨rfl,rfl⟩
 ·have pVY:((vErr E P (wX (wv bh bl))==0)=false):=by simpa using hv
  exact con_of_run numG noCountP mixedP gTL roTL sizeP (nest_ok wrC_ok 3) (by simp) g (wr_z_nb E P m ah al bh bl ch cl (negOf E P (wX (wv ah al)))) (by simp only[wr_z_nb_cs,List.forall_mem_cons];(repeat' apply And.intro)<;>first|exact True.intro|with_reducible rfl|with_reducible assumption|(intro c hc;cases hc)|(simp[];done)) ⟨rfl,rfl⟩
theorem wl_i{E P m ah al bh bl ch cl:Int}(hA:wB (wv ah al)=true)(hB:wB (wv bh bl)=true)(hF:Fmt E P)(x1:(wX (wv ah al))<2*signOf E P)(hk:kindOf E P (wX (wv ah al))=3):Con Tryz.prog TL 4 [.v (opV E P m ah al bh bl ch cl)] ⟨none,.bool true⟩:=by
 have g: ∀x,Ar.v x∈ [Ar.v (opV E P m ah al bh bl ch cl)]→ground 9 x=true:=fun x hx=>by
  simp at hx;subst hx;rfl
 obtain⟨hx,lx,x0,xM⟩:=wv_half hA
 have hi:=inf_sign hF
 obtain⟨i0,i1,i2,i3⟩:=hi
 have sz:=siz_range (E:=E) (P:=P) x0 x1
 have hw:=word_split (E:=E) (P:=P) (X:=(wX (wv ah al)))
 have pChk:((chkE E P !=0)=false):=by unfold chkE;rw[if_pos hF];rfl
 have pF:(decide (Fmt E P)=true):=decide_eq_true hF
 have pk1:((kindOf E P (wX (wv ah al))==1)=false):=by rw[hk];rfl
 have pk2:((kindOf E P (wX (wv ah al))==2)=false):=by rw[hk];rfl
 have pk3:((kindOf E P (wX (wv ah al))==3)=true):=by rw[hk];rfl
 have pk4:((kindOf E P (wX (wv ah al))==4)=false):=by rw[hk];rfl
 have pk5:((kindOf E P (wX (wv ah al))==5)=false):=by rw[hk];rfl
 have pD:((decide (Fmt E P)&&(wB (wv ah al)&&decide ((wX (wv ah al))<2*signOf E P)))=true):=by rw[pF,hA,decide_eq_true x1];rfl
 have pT:(decide (inT (opK E P (wX (wv ah al))) (fineOf E P))=true):=decide_eq_true (inT_word hF x0 x1)
 have o0:(opK E P (wX (wv ah al))=0):=by unfold opK;rw[if_neg (by omega),if_neg (by omega),if_neg (by omega)]
 have pS0:((sgI (opK E P (wX (wv ah al)))==0)=true):=by rw[o0];rfl
 have pSV:((decide (Fmt E P)&&(wB (wordV (infOf E P))&&decide (wX (wordV (infOf E P))<signOf E P)))=true):=by rw[pF,wX_wordV,wB_wordV (by omega) (by omega),decide_eq_true (show infOf E P<signOf E P by omega)];rfl
 have hs:=kind_3 hk
 have hv:(vErr E P (wX (wv ah al))≠0):=fun hc=>by have:=(vErr_zero hc).2.2.1;omega
 have pV:((vErr E P (wX (wv ah al))==0)=false):=by simpa using hv
 cases hn:negOf E P (wX (wv ah al))
 ·have pNe:((!decide ((wX (wordV (infOf E P))+(if false=true then signOf E P else 0))/18446744073709551616=ah∧(wX (wordV (infOf E P))+(if false=true then signOf E P else 0))%18446744073709551616=al))=false):=new hx lx (by rw[wX_wordV];rw[hn]at hw;rw[if_neg (by decide)]at hw⊢;omega)
  obtain⟨⟨e0,e1,u0,u1⟩,nu⟩:=nx_infp hF x0 x1 hk hn
  have pUB:(wB (wordV (nW E P (wX (wv ah al)) true))=true):=wB_wordV u0 (by omega)
  have pE0:((nxE E P (wX (wv ah al)) !=0)=false):=by rw[e0];rfl
  have pE1:((nxE E P (wX (wordV (nW E P (wX (wv ah al)) true))) !=0)=false):=by rw[wX_wordV,e1];rfl
  have pUp:(decide ((nW E P (wX (wv ah al)) true)/18446744073709551616=ah∧(nW E P (wX (wv ah al)) true)%18446744073709551616=al)=true):=eqw hx lx nu
  exact con_of_run numG noCountP mixedP gTL roTL sizeP (nest_ok wrC_ok 3) (by simp) g (wr_ip E P m ah al bh bl ch cl) (by simp only[wr_ip_cs,List.forall_mem_cons];(repeat' apply And.intro)<;>first|exact True.intro|with_reducible rfl|with_reducible assumption|(intro c hc;cases hc)|(simp[];done)) ⟨rfl,rfl⟩
 ·have pNe:((!decide ((wX (wordV (infOf E P))+(if true=true then signOf E P else 0))/18446744073709551616=ah∧(wX (wordV (infOf E P))+(if true=true then signOf E P else 0))%18446744073709551616=al))=false):=new hx lx (by rw[wX_wordV];rw[hn]at hw;rw[if_pos rfl]at hw⊢;omega)
  obtain⟨⟨e0,e1,u0,u1⟩,nb,nu⟩:=nx_infn hF x0 x1 hk hn
  have pUB:(wB (wordV (nW E P (wX (wv ah al)) true))=true):=wB_wordV u0 (by omega)
  have pE0:((nxE E P (wX (wv ah al)) !=0)=false):=by rw[e0];rfl
  have pE1:((nxE E P (wX (wordV (nW E P (wX (wv ah al)) true))) !=0)=false):=by rw[wX_wordV,e1];rfl
  have pBk:((!decide ((nW E P (wX (wordV (nW E P (wX (wv ah al)) true))) false)/18446744073709551616=ah∧(nW E P (wX (wordV (nW E P (wX (wv ah al)) true))) false)%18446744073709551616=al))=false):=new hx lx (by rw[wX_wordV];exact nb)
  have pUp:(decide ((nW E P (wX (wv ah al)) true)/18446744073709551616=ah∧(nW E P (wX (wv ah al)) true)%18446744073709551616=al)=false):=eqwF hx lx nu
  have pQ:((wX (wordV (infOf E P))+signOf E P)/18446744073709551616=ah∧(wX (wordV (infOf E P))+signOf E P)%18446744073709551616=al):=by
   have eq:wX (wordV (infOf E P))+signOf E P=(wX (wv ah al)):=by rw[wX_wordV];rw[hn]at hw;rw[if_pos rfl]at hw;omega
   rw[eq];exact⟨hx,lx⟩
  exact con_of_run numG noCountP mixedP gTL roTL sizeP (nest_ok wrC_ok 3) (by simp) g (wr_in E P m ah al bh bl ch cl) (by simp only[wr_in_cs,List.forall_mem_cons];(repeat' apply And.intro)<;>first|exact True.intro|with_reducible rfl|with_reducible assumption|(intro c hc;cases hc)|(simp[pQ.1,pQ.2];done)) ⟨rfl,rfl⟩
theorem wl_q{E P m ah al bh bl ch cl:Int}(hA:wB (wv ah al)=true)(hB:wB (wv bh bl)=true)(hF:Fmt E P)(x1:(wX (wv ah al))<2*signOf E P)(hk:kindOf E P (wX (wv ah al))=4):Con Tryz.prog TL 4 [.v (opV E P m ah al bh bl ch cl)] ⟨none,.bool true⟩:=by
 have g: ∀x,Ar.v x∈ [Ar.v (opV E P m ah al bh bl ch cl)]→ground 9 x=true:=fun x hx=>by
  simp at hx;subst hx;rfl
 obtain⟨hx,lx,x0,xM⟩:=wv_half hA
 have hi:=inf_sign hF
 obtain⟨i0,i1,i2,i3⟩:=hi
 have sz:=siz_range (E:=E) (P:=P) x0 x1
 have hw:=word_split (E:=E) (P:=P) (X:=(wX (wv ah al)))
 have pChk:((chkE E P !=0)=false):=by unfold chkE;rw[if_pos hF];rfl
 have pF:(decide (Fmt E P)=true):=decide_eq_true hF
 have pk1:((kindOf E P (wX (wv ah al))==1)=false):=by rw[hk];rfl
 have pk2:((kindOf E P (wX (wv ah al))==2)=false):=by rw[hk];rfl
 have pk3:((kindOf E P (wX (wv ah al))==3)=false):=by rw[hk];rfl
 have pk4:((kindOf E P (wX (wv ah al))==4)=true):=by rw[hk];rfl
 have pk5:((kindOf E P (wX (wv ah al))==5)=false):=by rw[hk];rfl
 obtain⟨y0,y1,y4,y5⟩:=py_range hF x0 x1 (.inl hk)
 have hy:=y4 hk
 have hP3:=hF.2.2.1
 have hP4:=hF.2.2.2.1
 have wP:IntKind.i64.wrap (P-2)=P-2:=wrapI (by omega)
 have m0:min (0:Int) (P-2)=0:=by omega
 have b111:((2:Int)^(P-2).toNat≤2^111):=p2mono (by omega)
 have u1:(upK (pyK E P (wX (wv ah al))) (0:Int) (P-2)=(pyK E P (wX (wv ah al)))):=by unfold upK;rw[m0];simp
 have u2:(upK (1:Int) (P-2) (0:Int)=2^(P-2).toNat):=by unfold upK;rw[show min (P-2) (0:Int)=0 by omega];simp
 have t0:((pyK E P (wX (wv ah al)))*2^(0:Int).toNat=(pyK E P (wX (wv ah al)))):=by simp
 have sb:((2:Int)^112<sml):=by unfold sml;exact p2lt (by decide)
 have pD:((decide (Fmt E P)&&(wB (wv ah al)&&decide ((wX (wv ah al))<2*signOf E P∧(kindOf E P (wX (wv ah al))=4∨kindOf E P (wX (wv ah al))=5))))=true):=by rw[pF,hA,decide_eq_true (show _∧_ from⟨x1,(.inl hk)⟩)];rfl
 have pT:(decide (inT (pyK E P (wX (wv ah al))) (0:Int))=true):=decide_eq_true ⟨by have:=(show(2:Int)^111<2^3000 from p2lt (by decide));omega,by omega,by omega⟩
 have pI:((isI' (pyK E P (wX (wv ah al))) 0)=true):=by unfold isI';simp;try omega
 have pS:(decide (sgI (pyK E P (wX (wv ah al)))<0)=false):=by rw[sg_lt];exact decide_eq_false (by omega)
 have pP:(decide (-20000≤(IntKind.i64.wrap (P-2))∧(IntKind.i64.wrap (P-2))≤20000)=true):=by rw[wP];exact decide_eq_true (by omega)
 have pB:((decide (inB (upK (pyK E P (wX (wv ah al))) (0:Int) (IntKind.i64.wrap (P-2))) (min (0:Int) (IntKind.i64.wrap (P-2))))&&decide (inB (upK (1:Int) (IntKind.i64.wrap (P-2)) (0:Int)) (min (0:Int) (IntKind.i64.wrap (P-2)))))=true):=by rw[wP,u1,u2,m0,decide_eq_true (show inB _ _ from⟨by omega,by omega,by omega,by omega⟩),decide_eq_true (show inB _ _ from⟨by omega,by omega,by omega,by omega⟩)];rfl
 have pC:(decide (cmpI (upK (pyK E P (wX (wv ah al))) (0:Int) (IntKind.i64.wrap (P-2))) (upK 1 (IntKind.i64.wrap (P-2)) (0:Int))≥0)=false):=by rw[wP,u1,u2,cmpI_lt y1];rfl
 have pW:(decide (0≤(0:Int)∧0≤(pyK E P (wX (wv ah al)))*2^(0:Int).toNat∧(pyK E P (wX (wv ah al)))*2^(0:Int).toNat<2^124)=true):=by rw[t0];exact decide_eq_true ⟨by omega,y0,by have:=(show(2:Int)^111<2^124 by decide);omega⟩
 have h128:(2:Int)^112<two128:=by decide
 have pWW:((wB (wordV (quietOf E P))&&wB (wordV ((pyK E P (wX (wv ah al)))*2^(0:Int).toNat)))=true):=by rw[t0,wB_wordV (by omega) (by omega),wB_wordV y0 (by omega)];rfl
 have eW:(wX (wordV ((wX (wordV (quietOf E P))+wX (wordV ((pyK E P (wX (wv ah al)))*2^(0:Int).toNat)))%two128))=sizW E P (wX (wv ah al))):=by rw[wX_wordV,wX_wordV,wX_wordV,t0,hy,Int.emod_eq_of_lt sz.1 (by omega)]
 have bW:(wB (wordV ((wX (wordV (quietOf E P))+wX (wordV ((pyK E P (wX (wv ah al)))*2^(0:Int).toNat)))%two128))=true):=by rw[wX_wordV,wX_wordV,t0,hy,Int.emod_eq_of_lt sz.1 (by omega)];exact wB_wordV sz.1 (by omega)
 have pSV:((decide (Fmt E P)&&(wB (wordV ((wX (wordV (quietOf E P))+wX (wordV ((pyK E P (wX (wv ah al)))*2^(0:Int).toNat)))%two128))&&decide (wX (wordV ((wX (wordV (quietOf E P))+wX (wordV ((pyK E P (wX (wv ah al)))*2^(0:Int).toNat)))%two128))<signOf E P)))=true):=by rw[eW,bW,pF,decide_eq_true sz.2];rfl
 have pNe:((!decide ((wX (wordV ((wX (wordV (quietOf E P))+wX (wordV ((pyK E P (wX (wv ah al)))*2^(0:Int).toNat)))%two128))+(if negOf E P (wX (wv ah al))=true then signOf E P else 0))/18446744073709551616=ah∧(wX (wordV ((wX (wordV (quietOf E P))+wX (wordV ((pyK E P (wX (wv ah al)))*2^(0:Int).toNat)))%two128))+(if negOf E P (wX (wv ah al))=true then signOf E P else 0))%18446744073709551616=al))=false):=by
  refine new hx lx ?_
  rw[eW];exact hw.symm
 have pX:((nxE E P (wX (wv ah al))==4)=true):=by rw[nxE4 hF x1 (.inl hk)];rfl
 exact con_of_run numG noCountP mixedP gTL roTL sizeP (nest_ok wrNC_ok 3) (by simp) g (wr_q E P m ah al bh bl ch cl (negOf E P (wX (wv ah al)))) (by simp only[wr_q_cs,List.forall_mem_cons];(repeat' apply And.intro)<;>first|exact True.intro|with_reducible rfl|with_reducible assumption|(intro c hc;cases hc)|(simp[];done)) ⟨rfl,rfl⟩
theorem wl_s{E P m ah al bh bl ch cl:Int}(hA:wB (wv ah al)=true)(hB:wB (wv bh bl)=true)(hF:Fmt E P)(x1:(wX (wv ah al))<2*signOf E P)(hk:kindOf E P (wX (wv ah al))=5):Con Tryz.prog TL 4 [.v (opV E P m ah al bh bl ch cl)] ⟨none,.bool true⟩:=by
 have g: ∀x,Ar.v x∈ [Ar.v (opV E P m ah al bh bl ch cl)]→ground 9 x=true:=fun x hx=>by
  simp at hx;subst hx;rfl
 obtain⟨hx,lx,x0,xM⟩:=wv_half hA
 have hi:=inf_sign hF
 obtain⟨i0,i1,i2,i3⟩:=hi
 have sz:=siz_range (E:=E) (P:=P) x0 x1
 have hw:=word_split (E:=E) (P:=P) (X:=(wX (wv ah al)))
 have pChk:((chkE E P !=0)=false):=by unfold chkE;rw[if_pos hF];rfl
 have pF:(decide (Fmt E P)=true):=decide_eq_true hF
 have pk1:((kindOf E P (wX (wv ah al))==1)=false):=by rw[hk];rfl
 have pk2:((kindOf E P (wX (wv ah al))==2)=false):=by rw[hk];rfl
 have pk3:((kindOf E P (wX (wv ah al))==3)=false):=by rw[hk];rfl
 have pk4:((kindOf E P (wX (wv ah al))==4)=false):=by rw[hk];rfl
 have pk5:((kindOf E P (wX (wv ah al))==5)=true):=by rw[hk];rfl
 obtain⟨y0,y1,y4,y5⟩:=py_range hF x0 x1 (.inr hk)
 have hy:=(y5 hk).1
 have hP3:=hF.2.2.1
 have hP4:=hF.2.2.2.1
 have wP:IntKind.i64.wrap (P-2)=P-2:=wrapI (by omega)
 have m0:min (0:Int) (P-2)=0:=by omega
 have b111:((2:Int)^(P-2).toNat≤2^111):=p2mono (by omega)
 have u1:(upK (pyK E P (wX (wv ah al))) (0:Int) (P-2)=(pyK E P (wX (wv ah al)))):=by unfold upK;rw[m0];simp
 have u2:(upK (1:Int) (P-2) (0:Int)=2^(P-2).toNat):=by unfold upK;rw[show min (P-2) (0:Int)=0 by omega];simp
 have t0:((pyK E P (wX (wv ah al)))*2^(0:Int).toNat=(pyK E P (wX (wv ah al)))):=by simp
 have sb:((2:Int)^112<sml):=by unfold sml;exact p2lt (by decide)
 have pD:((decide (Fmt E P)&&(wB (wv ah al)&&decide ((wX (wv ah al))<2*signOf E P∧(kindOf E P (wX (wv ah al))=4∨kindOf E P (wX (wv ah al))=5))))=true):=by rw[pF,hA,decide_eq_true (show _∧_ from⟨x1,(.inr hk)⟩)];rfl
 have pT:(decide (inT (pyK E P (wX (wv ah al))) (0:Int))=true):=decide_eq_true ⟨by have:=(show(2:Int)^111<2^3000 from p2lt (by decide));omega,by omega,by omega⟩
 have pI:((isI' (pyK E P (wX (wv ah al))) 0)=true):=by unfold isI';simp;try omega
 have pS:(decide (sgI (pyK E P (wX (wv ah al)))<0)=false):=by rw[sg_lt];exact decide_eq_false (by omega)
 have pP:(decide (-20000≤(IntKind.i64.wrap (P-2))∧(IntKind.i64.wrap (P-2))≤20000)=true):=by rw[wP];exact decide_eq_true (by omega)
 have pB:((decide (inB (upK (pyK E P (wX (wv ah al))) (0:Int) (IntKind.i64.wrap (P-2))) (min (0:Int) (IntKind.i64.wrap (P-2))))&&decide (inB (upK (1:Int) (IntKind.i64.wrap (P-2)) (0:Int)) (min (0:Int) (IntKind.i64.wrap (P-2)))))=true):=by rw[wP,u1,u2,m0,decide_eq_true (show inB _ _ from⟨by omega,by omega,by omega,by omega⟩),decide_eq_true (show inB _ _ from⟨by omega,by omega,by omega,by omega⟩)];rfl
 have pC:(decide (cmpI (upK (pyK E P (wX (wv ah al))) (0:Int) (IntKind.i64.wrap (P-2))) (upK 1 (IntKind.i64.wrap (P-2)) (0:Int))≥0)=false):=by rw[wP,u1,u2,cmpI_lt y1];rfl
 have pW:(decide (0≤(0:Int)∧0≤(pyK E P (wX (wv ah al)))*2^(0:Int).toNat∧(pyK E P (wX (wv ah al)))*2^(0:Int).toNat<2^124)=true):=by rw[t0];exact decide_eq_true ⟨by omega,y0,by have:=(show(2:Int)^111<2^124 by decide);omega⟩
 have h128:(2:Int)^112<two128:=by decide
 have pWW:((wB (wordV (infOf E P))&&wB (wordV ((pyK E P (wX (wv ah al)))*2^(0:Int).toNat)))=true):=by rw[t0,wB_wordV (by omega) (by omega),wB_wordV y0 (by omega)];rfl
 have eW:(wX (wordV ((wX (wordV (infOf E P))+wX (wordV ((pyK E P (wX (wv ah al)))*2^(0:Int).toNat)))%two128))=sizW E P (wX (wv ah al))):=by rw[wX_wordV,wX_wordV,wX_wordV,t0,hy,Int.emod_eq_of_lt sz.1 (by omega)]
 have bW:(wB (wordV ((wX (wordV (infOf E P))+wX (wordV ((pyK E P (wX (wv ah al)))*2^(0:Int).toNat)))%two128))=true):=by rw[wX_wordV,wX_wordV,t0,hy,Int.emod_eq_of_lt sz.1 (by omega)];exact wB_wordV sz.1 (by omega)
 have pSV:((decide (Fmt E P)&&(wB (wordV ((wX (wordV (infOf E P))+wX (wordV ((pyK E P (wX (wv ah al)))*2^(0:Int).toNat)))%two128))&&decide (wX (wordV ((wX (wordV (infOf E P))+wX (wordV ((pyK E P (wX (wv ah al)))*2^(0:Int).toNat)))%two128))<signOf E P)))=true):=by rw[eW,bW,pF,decide_eq_true sz.2];rfl
 have pNe:((!decide ((wX (wordV ((wX (wordV (infOf E P))+wX (wordV ((pyK E P (wX (wv ah al)))*2^(0:Int).toNat)))%two128))+(if negOf E P (wX (wv ah al))=true then signOf E P else 0))/18446744073709551616=ah∧(wX (wordV ((wX (wordV (infOf E P))+wX (wordV ((pyK E P (wX (wv ah al)))*2^(0:Int).toNat)))%two128))+(if negOf E P (wX (wv ah al))=true then signOf E P else 0))%18446744073709551616=al))=false):=by
  refine new hx lx ?_
  rw[eW];exact hw.symm
 have pX:((nxE E P (wX (wv ah al))==4)=true):=by rw[nxE4 hF x1 (.inr hk)];rfl
 have pS0:((sgI (pyK E P (wX (wv ah al))) !=0)=true):=by rw[sg_nb,decide_eq_false (y5 hk).2];rfl
 exact con_of_run numG noCountP mixedP gTL roTL sizeP (nest_ok wrNC_ok 3) (by simp) g (wr_s E P m ah al bh bl ch cl (negOf E P (wX (wv ah al)))) (by simp only[wr_s_cs,List.forall_mem_cons];(repeat' apply And.intro)<;>first|exact True.intro|with_reducible rfl|with_reducible assumption|(intro c hc;cases hc)|(simp[];done)) ⟨rfl,rfl⟩
theorem words_law{E P m ah al bh bl ch cl:Int}(hA:wB (wv ah al)=true)(hB:wB (wv bh bl)=true):Con Tryz.prog TL 4 [.v (opV E P m ah al bh bl ch cl)] ⟨none,.bool true⟩:=by
 by_cases hF:Fmt E P∧(wX (wv ah al))<2*signOf E P
 ·obtain⟨hF,x1⟩:=hF
  have hr:=kind_range E P (wX (wv ah al))
  by_cases h1:kindOf E P (wX (wv ah al))=1
  ·exact wl_z hA hB hF x1 h1
  by_cases h2:kindOf E P (wX (wv ah al))=2
  ·exact wl_f hA hB hF x1 h2
  by_cases h3:kindOf E P (wX (wv ah al))=3
  ·exact wl_i hA hB hF x1 h3
  by_cases h4:kindOf E P (wX (wv ah al))=4
  ·exact wl_q hA hB hF x1 h4
  ·exact wl_s hA hB hF x1 (by omega)
 ·have g: ∀x,Ar.v x∈ [Ar.v (opV E P m ah al bh bl ch cl)]→ground 9 x=true:=fun x hx=>by
   simp at hx;subst hx;rfl
  have we:wErr E P [(wX (wv ah al))]≠0:=by
   unfold wErr
   by_cases hf:Fmt E P
   ·rw[if_pos hf,if_neg fun hc=>hF ⟨hf,all1.1 hc⟩];decide
   ·rw[if_neg hf];decide
  have pA:((wErr E P [(wX (wv ah al))] !=0)=true):=by simpa using we
  have pP:((wB (wv ah al)&& !decide (wErr E P [(wX (wv ah al))]=0))=true):=by rw[hA,decide_eq_false we];rfl
  exact con_of_run numG noCountP mixedP gTL roTL sizeP (nest_ok wrEC_ok 3) (by simp) g (wr_e E P m ah al bh bl ch cl) (by simp only[wr_e_cs,List.forall_mem_cons];(repeat' apply And.intro)<;>first|exact True.intro|with_reducible rfl|with_reducible assumption|(intro c hc;cases hc)|(simp[];done)) ⟨rfl,rfl⟩
end Go.Proofs.YtedhbbjlbgpafaaGreatDoor
namespace Go.Proofs.YtedhbbjlbgpafaaGreatDoor.floatsWords
open Go.ChangeShapes Go.WideShapes Go.ChangeAt Go.RowKit Go.Canon
theorem own:ownKnob Tryz.prog.godebug=none:=by kernel_rfl
theorem g0:Tryz.prog.globalNamed "vernier/floats.otherSign" =some 0:=by kernel_rfl
theorem g1:Tryz.prog.globalNamed "math/bits.deBruijn64tab" =some 2:=by kernel_rfl
theorem g9:Tryz.prog.globalNamed "internal/strconv.uint64pow10" =some 9:=by kernel_rfl
theorem t0:(Tryz.prog.globals[0]?).map (·.type)=some 229:=by kernel_rfl
theorem t1:(Tryz.prog.globals[2]?).map (·.type)=some 277:=by kernel_rfl
theorem t9:(Tryz.prog.globals[9]?).map (·.type)=some 300:=by kernel_rfl
theorem size:Tryz.prog.globals.size=11:=by kernel_rfl
def zs64:List Int:=[0,1,56,2,57,49,28,3,61,58,42,50,38,29,17,4,62,47,59,36,45,43,51,22,53,39,33,30,24,18,12,5,63,55,48,27,60,41,37,16,46,35,44,21,52,32,23,11,54,26,40,15,34,20,31,10,25,14,19,9,13,8,7,6]
def zs10:List Int:=[1,10,100,1000,10000,100000,1000000,10000000,100000000,1000000000,10000000000,100000000000,1000000000000,10000000000000,100000000000000,1000000000000000,10000000000000000,100000000000000000,1000000000000000000,10000000000000000000]
theorem z64:(zs64.map fun z=>Value.int .u8 z)=Lib.deBruijn64tab.map fun z:Nat=>Value.int .u8 z:=by kernel_rfl
theorem z10:(zs10.map fun z=>Value.int .u64 z)=tab10:=by kernel_rfl
theorem zOs:(([0,1,2,4,3]:List Int).map fun z=>Value.int .i64 z)=osTab:=by kernel_rfl
set_option maxRecDepth 100000 in
theorem env{W:World}(h:laidMetH Tryz.prog Rows.floatsWordsRow.laid W):EnvT TL W:=by
 rw[MakeChecks.laidMetH_plain _ _ _ (by kernel_rfl)]at h
 have m0:("vernier/floats.otherSign",Lib.tabData (H:=Unit) .i64 [0,1,2,4,3])∈Rows.floatsWordsRow.laid:=List.mem_of_getElem? (i:=6) rfl
 have m1:("math/bits.deBruijn64tab",Lib.tabData (H:=Unit) .u8 zs64)∈Rows.floatsWordsRow.laid:=List.mem_of_getElem? (i:=1) rfl
 have m9:("internal/strconv.uint64pow10",Lib.tabData (H:=Unit) .u64 zs10)∈Rows.floatsWordsRow.laid:=List.mem_of_getElem? (i:=2) rfl
 obtain⟨e0,f0,h0⟩:=tab_of_laid m0 g0 t0 Tryz.underlying229 Tryz.underlying3 (by kernel_rfl) (by kernel_rfl) h
 obtain⟨e1,f1,h1⟩:=tab_of_laid m1 g1 t1 Tryz.underlying277 Tryz.underlying5 (by kernel_rfl) (by kernel_rfl) h
 obtain⟨e9,f9,h9⟩:=tab_of_laid m9 g9 t9 Tryz.underlying300 Tryz.underlying24 (by kernel_rfl) (by kernel_rfl) h
 rw[z64]at h1
 rw[z10]at h9
 rw[zOs]at h0
 refine⟨⟨_,h1,_,_,_,rfl,fun j hj=>?_⟩,fun p hp=>?_⟩
 ·rw[List.getElem?_toArray,List.getElem?_map,List.getElem?_eq_getElem hj,List.getD_eq_getElem?_getD,List.getElem?_eq_getElem hj];rfl
 ·rcases List.mem_cons.1 hp with rfl|hp
  ·exact⟨_,_,_,h0,fun i v hv=>by rw[List.getElem?_toArray];exact hv⟩
  ·rcases List.mem_cons.1 hp with rfl|hp
   ·exact⟨_,_,_,h9,fun i v hv=>by rw[List.getElem?_toArray];exact hv⟩
   ·cases hp
theorem call{W:World}(h:laidMetH Tryz.prog Rows.floatsWordsRow.laid W)(hs:W.ShapedOpen Tryz.prog){E P m ah al bh bl ch cl:Int}(hA:wB (wv ah al)=true)(hB:wB (wv bh bl)=true):
 Calls Tryz.prog 4 #[opV E P m ah al bh bl ch cl] W fun e w1=>e=.returned (.bool true)∧Below W.heap.size W w1:=by
 have hsz:Tryz.prog.globals.size≤W.heap.size:=by
  have h10:(((begin Tryz.prog (fun _ _=>0) default).world.heap[10]?).bind Obj.row?).isSome=true:=by kernel_rfl
  obtain⟨⟨z,t⟩,hz⟩:=Option.isSome_iff_exists.1 h10
  obtain⟨cs,hc,_⟩:=hs.1 10 z t (by rw[size];decide) hz
  obtain⟨hlt,_⟩:=Array.getElem?_eq_some_iff.1 hc
  rw[size];omega
 refine(words_law hA hB W hsz (env h) #[opV E P m ah al bh bl ch cl] ⟨rfl,trivial⟩).mono fun e w1 ⟨v',h1,h2,h3⟩=>⟨?_,h3⟩
 have h2:v'=.bool true:=h2
 rw[h1,h2]
theorem contract(H:Type)(enc:TypeId×Value→H)(W:World)(args:Array Value)(ds gs:List (DataW H))(before:List MemPlace)
 (hW:DataW.Whole enc Tryz.prog Tryz.f4.params.toList Rows.floatsWordsSpec.vars false W args.toList ds gs before) (hL:laidMetH Tryz.prog Rows.floatsWordsRow.laid W) (hs:W.ShapedOpen Tryz.prog):
 Calls Tryz.prog 4 args W fun e W'=> ∃v,e=.returned v∧Rows.floatsWordsSpec.post enc Tryz.prog Tryz.f4 false true false false W args v W':=by
 have hW':=hW
 obtain⟨p,q,hA0,hV,rfl,hfz,hnd⟩:=hW
 have hA:DataW.TrodAll enc Tryz.prog W 0 (fun _=>true) true Tryz.f4.params.toList args.toList ds p:=hA0
 rw[Tryz.params4]at hA
 obtain⟨v,d,rfl,rfl,hd⟩:=trodAll_one hA
 obtain⟨rfl,rfl⟩:=trodVars_none hV
 clear hA0 hA
 obtain⟨E,P,m,ah,al,bh,bl,ch,cl,rfl,rfl,rfl,hi,s1,s2,s3,s4,s5,s6⟩:=open_op hd
 refine(call hL hs (wB_of s1 s2) (wB_of s3 s4)).mono fun e W' ⟨he,hb⟩=>?_
 subst he
 refine⟨_,rfl,_,_,_,[],[],[],hW',?_,?_,rfl,hb.frame _,fun h=>by cases h⟩
 ·exact trodAll_cons_mk (shut_bool Tryz.underlying4 _) trodAll_mk0
 ·rw[Tryz.params4];exact trodAll_mk1 (shut_op hi s1 s2 s3 s4 s5 s6)
set_option maxRecDepth 100000 in
theorem lifted(os:Os)(started:os.Started)(H:Type)(enc:TypeId×Value→H)(F:Stop.Interp):
 ReturnsInHanded {} Tryz.checked os 4 .any ((OpenSpec.ofChange Rows.floatsWordsSpec).preRow enc Tryz.prog Tryz.f4 Rows.floatsWordsRow.domain false Rows.floatsWordsRow.laid) (((OpenSpec.ofChange Rows.floatsWordsSpec).at F).post enc Tryz.prog Tryz.f4 false true false false):=by
 obtain⟨places,hx⟩:=reads os enc
 refine returnsInHanded_of_row (C:=Tryz.checked) (s:=OpenSpec.ofChange Rows.floatsWordsSpec) own started (by kernel_rfl) Tryz.func4
  (witness_row_atRef (enc:=enc) (C:=Tryz.checked) false (laidWorld os) #[arg0] rfl (by kernel_rfl) (by kernel_rfl) (by kernel_rfl)
   (OpenSpec.preRow_of_cond 8 hx (by kernel_rfl) (fun k hk=>by cases hk) (by kernel_rfl) (laid_met os))) ?_
 intro W base args ds gs before _ hW _ _ _ hL hs _
 exact contract H enc W args ds gs before hW hL hs
end Go.Proofs.YtedhbbjlbgpafaaGreatDoor.floatsWords
