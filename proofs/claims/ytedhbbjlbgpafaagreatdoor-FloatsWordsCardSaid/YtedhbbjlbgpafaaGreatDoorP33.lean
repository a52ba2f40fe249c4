/-
  Texts that are read: Parse of a whole number, and of a fraction in lowest terms.
-/
import Derived.Test.YtedhbbjlbgpafaaGreatDoorP32
set_option linter.unusedVariables false
set_option linter.unusedSimpArgs false
namespace Go.Proofs.YtedhbbjlbgpafaaGreatDoor
open Go.RowKit Go.Shelf
attribute [local go_sem] eqNil neqNil
theorem prefix_yes(c:UInt8)(P:List UInt8):Lib.hasPrefix (c::P) [c]=true∧Lib.trimPrefix (c::P) [c]=P:=by
 constructor<;>simp[Lib.hasPrefix,Lib.trimPrefix]
theorem prefix_no{c:UInt8}{P:List UInt8}(h:P.head?≠some c):Lib.hasPrefix P [c]=false∧Lib.trimPrefix P [c]=P:=by
 cases P with
 |nil=>constructor<;>rfl
 |cons b P=>
  have hb: ¬c=b:=fun e=>h (by rw[e];rfl)
  constructor<;>simp[Lib.hasPrefix,Lib.trimPrefix,List.isPrefixOf,hb]
structure RowOk(P:List UInt8):Prop where
 dig:P.all isDg=true
 ne:P≠ []
 row:rowB P=true
 no45:P.head?≠some 45
 no47:(47:UInt8)∉P
 zero:decV P=0→P=[48]
theorem row_ok{P:List UInt8}(h:rowB P=true):RowOk P:=by
 unfold rowB at h
 rw[Bool.and_eq_true]at h
 obtain⟨h1,h2⟩:=h
 have hm: ∀b∈P,48≤b.toNat∧b.toNat≤57:=fun b hb=>of_decide_eq_true (List.all_eq_true.1 h1 b hb)
 have hne:P≠ []:=fun e=>by rw[e]at h2;cases h2
 refine⟨h1,hne,by unfold rowB;rw[h1,h2];rfl,fun e=>?_,fun e=>?_,fun e=>?_⟩
 ·have:=hm 45 (List.mem_of_head? e);revert this;decide
 ·have:=hm 47 e;revert this;decide
 ·cases P with
  |nil=>exact absurd rfl hne
  |cons b P=>
   have e1:=decV_append [b] P
   rw[show [b]++P=b::P from rfl,e]at e1
   have hp:0<10^P.length:=Nat.pow_pos (by omega)
   have e2:decV [b]=b.toNat-48:=by simp[decV]
   rw[e2]at e1
   have hb0:=hm b List.mem_cons_self
   have:b.toNat-48=0:=by
    apply Classical.byContradiction
    intro hc
    have:=Nat.mul_le_mul_right (10^P.length) (show 1≤b.toNat-48 by omega)
    omega
   have hb:b=48:=UInt8.toNat_inj.1 (by show b.toNat=48;omega)
   subst hb
   rw[Bool.or_eq_true]at h2
   rcases h2 with h2|h2
   ·exact beq_iff_eq.1 h2
   ·simp at h2
theorem fracK(w:World)(hE:Env w)(neg:Bool)(v:Value)(n:Int)(h:Nt w v n)(hs:n<big)(h0:n=0→neg=false):
 Calls Tryz.prog 135 #[.bool neg,v,.slice none 0 0,.int .i64 0] w (DnPost w (sg neg n) 0):=by
 by_cases hz:n=0
 ·subst hz
  rw[h.nil,h0 rfl]
  refine(frac_zero w false 0 none 0 0).mono ?_
  rintro e w' ⟨rfl,hb⟩
  exact⟨_,rfl,⟨false,0,0,⟨_,_,_,_,_,_,rfl,.zero _,.inl ⟨rfl,rfl⟩⟩,.inl ⟨rfl,rfl,rfl,rfl⟩⟩,hb⟩
 ·refine(frac_nil w hE neg v n 0 h hs hz (by omega) (by omega)).mono ?_
  rintro e w' ⟨v',t,z,rfl,hv,ht,hn,hb⟩
  have hn0:=h.nonneg
  obtain⟨bo,lo,co,rfl⟩:=hv.shape
  have ht0:=(two_le_pow hn (by omega) hs).2.1
  refine⟨_,rfl,⟨neg,t,0+z,⟨_,_,_,_,_,_,rfl,hv,.inl ⟨rfl,rfl⟩⟩,.inr ⟨ht,ht0,z,by omega,?_⟩⟩,hb⟩
  rw[hn,Int.mul_comm]
  cases neg
  ·rfl
  ·exact(Int.neg_mul _ _).symm
theorem fracJ(w:World)(hE:Env w)(neg:Bool)(v vd:Value)(n:Int)(j:Nat)(h:Nt w v n)(hs:n<big)(ho:n%2=1)(hd:Nt w vd (2^j))(hs2:(2:Int)^j<big):
 Calls Tryz.prog 135 #[.bool neg,v,vd,.int .i64 0] w (DnPost w (sg neg n) (-(j:Int))):=by
 have hj0:=p2pos j
 have hn0:=h.nonneg
 refine(frac_some w hE neg v vd n (2^j) 0 h hs (by omega) hd hs2 (by omega) (by omega) (by omega)).mono ?_
 rintro e w' ⟨v',vb,t,b,z,y,rfl,hv,ht,hn,hvb,hb2,hy,hb⟩
 have hz:=two_le_pow hn (by omega) hs
 have hz0:z=0:=by
  cases z with
  |zero=>rfl
  |succ z=>rw[Int.pow_succ,Int.mul_comm _ 2,Int.mul_assoc]at hn;omega
 subst hz0
 rw[Int.pow_zero,Int.one_mul]at hn
 have hyb:y=j∧b=1:=by
  have hyj:y≤j:=by
   apply Classical.byContradiction
   intro hc
   obtain⟨c,rfl⟩: ∃c,y=j+(c+1):=⟨y-j-1,by omega⟩
   rw[Int.pow_add,Int.mul_assoc]at hy
   have h1:(1:Int)=2^(c+1)*b:=Int.eq_of_mul_eq_mul_left (show(2:Int)^j≠0 by omega) (by rw[Int.mul_one];exact hy)
   rw[Int.pow_succ,Int.mul_comm _ 2,Int.mul_assoc]at h1
   omega
  obtain⟨c,rfl⟩: ∃c,j=y+c:=⟨j-y,by omega⟩
  rw[Int.pow_add]at hy
  have h1:(2:Int)^c=b:=Int.eq_of_mul_eq_mul_left (by have:=p2pos y;omega) hy
  cases c with
  |zero=>exact⟨rfl,by rw[←h1];rfl⟩
  |succ c=>rw[Int.pow_succ]at h1;omega
 obtain⟨rfl,rfl⟩:=hyb
 obtain⟨bo,lo,co,rfl⟩:=hv.shape
 rcases hvb with⟨_,rfl⟩|⟨hc,_⟩
 ·refine⟨_,rfl,⟨neg,t,0+((0:Nat):Int)-y,⟨_,_,_,_,_,_,rfl,hv,.inl ⟨rfl,rfl⟩⟩,.inr ⟨ht,hz.2.1,0,by omega,?_⟩⟩,hb⟩
  rw[hn,Int.pow_zero,Int.mul_one]
 ·exact absurd rfl hc
set_option maxRecDepth 100000 in
set_option maxHeartbeats 2000000 in
theorem parse_whole(w:World)(hE:Env w)(neg:Bool)(P:List UInt8)(hr:rowB P=true)(hl:P.length≤2000)(hn:neg=true→P≠ [48]):
 Calls Tryz.prog 67 #[.string ⟨((if neg then [45]else [])++P).toArray⟩] w fun e w'=> ∃v,e=.returned (.tuple #[v,.int .i64 0])∧Dn w' v (sg neg (decV P:Nat)) 0∧Below w.heap.size w w':=by
 have ok:=row_ok hr
 have HCP:Hid (∀W,Calls Tryz.prog 132 #[.string ⟨((if neg then [45]else [])++P).toArray⟩,.string ⟨#[45]⟩] W fun e w'=>e=.returned (.tuple #[.string ⟨P.toArray⟩,.bool neg])∧w'=W):=Lib.hid fun W=>by
  have:=cutPrefix_any W ((if neg then [45]else [])++P) 45
  cases neg
  ·rw[show(if false=true then [(45:UInt8)]else [])++P=P from rfl]at this⊢
   rw[(prefix_no ok.no45).1,(prefix_no ok.no45).2]at this
   exact this
  ·rw[show(if true=true then [(45:UInt8)]else [])++P=45::P from rfl]at this⊢
   rw[(prefix_yes 45 P).1,(prefix_yes 45 P).2]at this
   exact this
 have HC:Hid (∀W,Calls Tryz.prog 133 #[.string ⟨P.toArray⟩,.string ⟨#[47]⟩] W fun e w'=>e=.returned (.tuple #[.string ⟨P.toArray⟩,.string ByteArray.empty,.bool false])∧w'=W):=Lib.hid fun W=>cut_miss W P 47 ok.no47
 have HR:Hid (∀W,Calls Tryz.prog 134 #[.string ⟨P.toArray⟩] W fun e w'=>e=.returned (.bool true)∧w'=W):=Lib.hid fun W=>by
  have:=isRow_any W P (by omega)
  rwa [hr]at this
 have HF:Hid (∀W,Calls Tryz.prog 136 #[.string ⟨P.toArray⟩] W fun e w'=> ∃v,e=.returned v∧Nt w' v (decV P:Nat)∧Below W.heap.size W w'):=Lib.hid fun W=>fromDigits_any W P ok.dig hl
 have HK:Hid (∀W v,Below w.heap.size w W→Nt W v (decV P:Nat)→Calls Tryz.prog 135 #[.bool neg,v,.slice none 0 0,.int .i64 0] W (DnPost W (sg neg (decV P:Nat)) 0)):=Lib.hid fun W v hb hv=>fracK W (hE.below hb) neg v _ hv (dec_big ok.dig hl) (fun h0=>by
  cases neg
  ·rfl
  ·exact absurd (ok.zero (by omega)) (hn rfl))
 have hsz:(⟨P.toArray⟩:ByteArray).size=P.length:=by simp[ByteArray.size]
 generalize (⟨((if neg then [45]else [])++P).toArray⟩:ByteArray)=S at*
 clear ok hr hE
 have hbx:Box (w.alloc (.cells #[.bool false,.slice none 0 0,.slice none 0 0,.int .i64 0] 51)) w.heap.size #[.bool false,.slice none 0 0,.slice none 0 0,.int .i64 0]:=Box.new w _ _
 have hbl:Below w.heap.size w (w.alloc (.cells #[.bool false,.slice none 0 0,.slice none 0 0,.int .i64 0] 51)):=(Below.refl _ _).alloc (Nat.le_refl _) _
 have HBX:=Lib.hid (And.intro hbx hbl)
 clear hbx hbl
 cases neg
 ·clear hn
  go_enter Tryz.func67,Tryz.ntmps67
  go_wp2_with (first
   |(go_at_call 132;refine(HCP.out _).mono ?_;rintro e w' ⟨rfl,rfl⟩)
   |(go_at_call 133;refine(HC.out _).mono ?_;rintro e w' ⟨rfl,rfl⟩)
   |(go_at_call 134;refine(HR.out _).mono ?_;rintro e w' ⟨rfl,rfl⟩))
  refine(HF.out _).mono ?_
  rintro e W1 ⟨v,rfl,hv,hb1⟩
  obtain⟨bo,lo,co,rfl⟩:=hv.shape
  have HV:=Lib.hid hv
  have HX1:=Lib.hid (HBX.out.1.below hb1)
  have HB1:Hid (Below w.heap.size w W1):=Lib.hid (HBX.out.2.trans (hb1.mono HBX.out.2.size))
  clear hv hb1
  go_wp2_with fail
  refine(HK.out _ _ HB1.out HV.out).mono ?_
  rintro e W2 ⟨v2,rfl,h2,hb2⟩
  obtain⟨s2,o2,l2,c2,o22,l22,c22,x2,rfl⟩:=h2.shape
  have HX2:=Lib.hid (HX1.out.below hb2)
  have HB2:Hid (Below w.heap.size w W2):=Lib.hid (HB1.out.trans (hb2.mono HB1.out.size))
  have H2:=Lib.hid h2
  clear h2 hb2
  have cC:=HX2.out.cell
  have fC:=HX2.out.free
  have lC:=HX2.out.lt
  go_wp2_with fail
  refine bodyPost_ret (v:=.tuple #[.agg #[.bool s2,.slice o2 l2 c2,.slice o22 l22 c22,.int .i64 x2],.int .i64 0]) (by simp[results,Tryz.results67,go_sem,cC,lC]) rfl ?_
  have ho:=Stored.only w.heap.size W2 s2 o2 l2 c2 o22 l22 c22 x2
  exact⟨_,rfl,H2.out.only ho HX2.out.noW,HB2.out.trans (ho.below HB2.out.size (Nat.le_refl _))⟩
 ·have h48:(P==[48])=false:=by simp[hn rfl]
  clear hn
  go_enter Tryz.func67,Tryz.ntmps67
  go_wp2_with (first
   |(go_at_call 132;refine(HCP.out _).mono ?_;rintro e w' ⟨rfl,rfl⟩)
   |(go_at_call 133;refine(HC.out _).mono ?_;rintro e w' ⟨rfl,rfl⟩)
   |(go_at_call 134;refine(HR.out _).mono ?_;rintro e w' ⟨rfl,rfl⟩))
  refine(HF.out _).mono ?_
  rintro e W1 ⟨v,rfl,hv,hb1⟩
  obtain⟨bo,lo,co,rfl⟩:=hv.shape
  have HV:=Lib.hid hv
  have HX1:=Lib.hid (HBX.out.1.below hb1)
  have HB1:Hid (Below w.heap.size w W1):=Lib.hid (HBX.out.2.trans (hb1.mono HBX.out.2.size))
  clear hv hb1
  go_wp2_with fail
  refine(HK.out _ _ HB1.out HV.out).mono ?_
  rintro e W2 ⟨v2,rfl,h2,hb2⟩
  obtain⟨s2,o2,l2,c2,o22,l22,c22,x2,rfl⟩:=h2.shape
  have HX2:=Lib.hid (HX1.out.below hb2)
  have HB2:Hid (Below w.heap.size w W2):=Lib.hid (HB1.out.trans (hb2.mono HB1.out.size))
  have H2:=Lib.hid h2
  clear h2 hb2
  have cC:=HX2.out.cell
  have fC:=HX2.out.free
  have lC:=HX2.out.lt
  go_wp2_with fail
  refine bodyPost_ret (v:=.tuple #[.agg #[.bool s2,.slice o2 l2 c2,.slice o22 l22 c22,.int .i64 x2],.int .i64 0]) (by simp[results,Tryz.results67,go_sem,cC,lC]) rfl ?_
  have ho:=Stored.only w.heap.size W2 s2 o2 l2 c2 o22 l22 c22 x2
  exact⟨_,rfl,H2.out.only ho HX2.out.noW,HB2.out.trans (ho.below HB2.out.size (Nat.le_refl _))⟩
end Go.Proofs.YtedhbbjlbgpafaaGreatDoor
