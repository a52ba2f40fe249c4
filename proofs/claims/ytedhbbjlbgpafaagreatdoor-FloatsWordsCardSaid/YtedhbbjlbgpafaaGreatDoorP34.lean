/-
  Texts that are read: lowestTerms at an odd numerator; Parse of a fraction whose denominator is a power of two.
-/
import Derived.Test.YtedhbbjlbgpafaaGreatDoorP33
set_option linter.unusedVariables false
set_option linter.unusedSimpArgs false
set_option maxHeartbeats 4000000
namespace Go.Proofs.YtedhbbjlbgpafaaGreatDoor
open Go.RowKit Go.Shelf
attribute [local go_sem] eqNil neqNil
theorem nv_par{zs:List Int}(h:0<zs.length):nv zs%2=gd zs 0%2:=by
 cases zs with
 |nil=>cases h
 |cons z zs=>
  have:nv (z::zs)=z+18446744073709551616*nv zs:=rfl
  rw[this]
  have:gd (z::zs) 0=z:=rfl
  rw[this]
  omega
set_option maxRecDepth 100000 in
theorem low_odd(w:World)(hE:Env w)(va vb:Value)(x y:Int)(ha:Nt w va x)(hb:Nt w vb y)(hx:x<big)(hy:y<big)(x0:0<x)(y0:0<y)(ho:x%2=1):
 Calls Tryz.prog 137 #[va,vb] w fun e w'=>e=.returned (.bool (decide (Int.gcd x y=1)))∧Below w.heap.size w w':=by
 have HG:=Lib.hid (gcd_any w hE va vb x y ha hb hx hy x0 y0 (.inl ho))
 have hgb:(Int.gcd x y:Int)<big:=by
  have:=Int.le_of_dvd x0 (Int.gcd_dvd_left x y)
  omega
 have HO:Hid (∀W v,Nt W v (Int.gcd x y)→Calls Tryz.prog 131 #[v] W fun e w'=>e=.returned (.bool (decide (Int.gcd x y=1)))∧W=w'):=Lib.hid fun W v hv=>by
  have:=isOne_any W v _ hv hgb
  have e:decide ((Int.gcd x y:Int)=1)=decide (Int.gcd x y=1):=by congr 1;rw[eq_iff_iff];omega
  rwa [e]at this
 obtain⟨bo,lb,cb,rfl⟩:=hb.shape
 obtain⟨b,off,cap,zs,rfl,hA⟩:=ha.pos (by omega)
 have hc:=hA.row 0 hA.pos
 rw[Nat.add_zero]at hc
 have hp:=hA.pos
 have h1:=nv_par hp
 rw[hA.val,ho]at h1
 obtain⟨a0,a1⟩:=gd_bounds hA.wd 0
 have hcap:=hA.cap
 obtain⟨l,hl⟩: ∃l,zs.length=l:=⟨_,rfl⟩
 rw[hl]at hp HG hcap⊢
 generalize gd zs 0=g at*
 have ht:g.tmod 2=1:=by rw[Int.tmod_eq_emod_of_nonneg a0];exact h1.symm
 have hb0:((l:Int)==0)=false:=by simp;omega
 clear hA ha hb hx hy ho hgb hl hE
 generalize decide (Int.gcd x y=1)=r at*
 generalize (Int.gcd x y:Int)=q at*
 go_enter Tryz.func137,Tryz.ntmps137
 go_wp2_with fail
 refine HG.out.mono ?_
 rintro e W1 ⟨v,rfl,hv,hb1⟩
 have HB:=Lib.hid hb1
 have HI:=Lib.hid (HO.out W1 v hv)
 clear hv hb1
 go_wp2_with fail
 refine HI.out.mono ?_
 rintro e W2 ⟨rfl,rfl⟩
 go_wp2_with fail
 go_ret
 exact⟨rfl,HB.out⟩
theorem gcd_two{x:Int}(j:Nat)(ho:x%2=1):Int.gcd x (2^j)=1:=by
 have:=gcd_twos (a:=x) (b:=2^j) (m:=1) (k:=j) ho (by omega)
 rw[this]
 simp
set_option maxRecDepth 100000 in
theorem parse_frac(w:World)(hE:Env w)(neg:Bool)(P Q:List UInt8)(j:Nat)(hr:rowB P=true)(hl:P.length≤2000)(hr2:rowB Q=true)(hl2:Q.length≤2000)(ho:decV P%2=1)(hQ:decV Q=2^j)(hj:0<j):
 Calls Tryz.prog 67 #[.string ⟨((if neg then [45]else [])++P++47::Q).toArray⟩] w fun e w'=> ∃v,e=.returned (.tuple #[v,.int .i64 0])∧Dn w' v (sg neg (decV P:Nat)) (-(j:Int))∧Below w.heap.size w w':=by
 have ok:=row_ok hr
 have ok2:=row_ok hr2
 have hq2:2≤decV Q:=by rw[hQ];obtain⟨i,rfl⟩: ∃i,j=i+1:=⟨j-1,by omega⟩;rw[Nat.pow_succ];have:0<2^i:=Nat.pow_pos (by omega);omega
 have q48:(Q==[48])=false:=by simp;intro e;rw[e]at hq2;revert hq2;decide
 have q49:(Q==[49])=false:=by simp;intro e;rw[e]at hq2;revert hq2;decide
 have p48:(P==[48])=false:=by simp;intro e;rw[e]at ho;revert ho;decide
 have HCP:Hid (∀W,Calls Tryz.prog 132 #[.string ⟨((if neg then [45]else [])++P++47::Q).toArray⟩,.string ⟨#[45]⟩] W fun e w'=>e=.returned (.tuple #[.string ⟨(P++47::Q).toArray⟩,.bool neg])∧w'=W):=Lib.hid fun W=>by
  have:=cutPrefix_any W ((if neg then [45]else [])++P++47::Q) 45
  have h45:(P++47::Q).head?≠some 45:=by
   have:=ok.no45
   cases P with
   |nil=>exact absurd rfl ok.ne
   |cons b P=>exact this
  cases neg
  ·rw[show(if false=true then [(45:UInt8)]else [])++P++47::Q=P++47::Q from rfl]at this⊢
   rw[(prefix_no h45).1,(prefix_no h45).2]at this
   exact this
  ·rw[show(if true=true then [(45:UInt8)]else [])++P++47::Q=45::(P++47::Q)from rfl]at this⊢
   rw[(prefix_yes 45 _).1,(prefix_yes 45 _).2]at this
   exact this
 have HC:Hid (∀W,Calls Tryz.prog 133 #[.string ⟨(P++47::Q).toArray⟩,.string ⟨#[47]⟩] W fun e w'=>e=.returned (.tuple #[.string ⟨P.toArray⟩,.string ⟨Q.toArray⟩,.bool true])∧ ∃n,w'=W.drewN n):=Lib.hid fun W=>cut_hit W P Q 47 ok.no47 (by omega)
 have HR:Hid (∀W,Calls Tryz.prog 134 #[.string ⟨P.toArray⟩] W fun e w'=>e=.returned (.bool true)∧w'=W):=Lib.hid fun W=>by
  have:=isRow_any W P (by omega)
  rwa [hr]at this
 have HR2:Hid (∀W,Calls Tryz.prog 134 #[.string ⟨Q.toArray⟩] W fun e w'=>e=.returned (.bool true)∧w'=W):=Lib.hid fun W=>by
  have:=isRow_any W Q (by omega)
  rwa [hr2]at this
 have HF:Hid (∀W,Calls Tryz.prog 136 #[.string ⟨P.toArray⟩] W fun e w'=> ∃v,e=.returned v∧Nt w' v (decV P:Nat)∧Below W.heap.size W w'):=Lib.hid fun W=>fromDigits_any W P ok.dig hl
 have HF2:Hid (∀W,Calls Tryz.prog 136 #[.string ⟨Q.toArray⟩] W fun e w'=> ∃v,e=.returned v∧Nt w' v (2^j)∧Below W.heap.size W w'):=Lib.hid fun W=>by
  have:=fromDigits_any W Q ok2.dig hl2
  rw[hQ]at this
  simpa using this
 have hb1:=dec_big ok.dig hl
 have hb2:(2:Int)^j<big:=by have:=dec_big ok2.dig hl2;rw[hQ]at this;simpa using this
 have ho2:((decV P:Nat):Int)%2=1:=by omega
 have hj0:=p2pos j
 have HL:Hid (∀W va vb,Below w.heap.size w W→Nt W va (decV P:Nat)→Nt W vb (2^j)→Calls Tryz.prog 137 #[va,vb] W fun e w'=>e=.returned (.bool true)∧Below W.heap.size W w'):=Lib.hid fun W va vb hb hv hv2=>by
  have:=low_odd W (hE.below hb) va vb _ _ hv hv2 hb1 hb2 (by omega) (by omega) ho2
  rwa [gcd_two j ho2]at this
 have HK:Hid (∀W va vb,Below w.heap.size w W→Nt W va (decV P:Nat)→Nt W vb (2^j)→Calls Tryz.prog 135 #[.bool neg,va,vb,.int .i64 0] W (DnPost W (sg neg (decV P:Nat)) (-(j:Int)))):=Lib.hid fun W va vb hb hv hv2=>fracJ W (hE.below hb) neg va vb _ j hv hb1 ho2 hv2 hb2
 have hsz:(⟨P.toArray⟩:ByteArray).size=P.length:=by simp[ByteArray.size]
 have hsz2:(⟨Q.toArray⟩:ByteArray).size=Q.length:=by simp[ByteArray.size]
 generalize (⟨((if neg then [45]else [])++P++47::Q).toArray⟩:ByteArray)=S at*
 generalize (⟨(P++47::Q).toArray⟩:ByteArray)=S2 at*
 clear ok ok2 hr hr2 hE hb1 hb2 ho2 hj0 hq2 ho hQ hj
 have hbx:Box (w.alloc (.cells #[.bool false,.slice none 0 0,.slice none 0 0,.int .i64 0] 51)) w.heap.size #[.bool false,.slice none 0 0,.slice none 0 0,.int .i64 0]:=Box.new w _ _
 have hbl:Below w.heap.size w (w.alloc (.cells #[.bool false,.slice none 0 0,.slice none 0 0,.int .i64 0] 51)):=(Below.refl _ _).alloc (Nat.le_refl _) _
 have HBX:=Lib.hid (And.intro hbx hbl)
 clear hbx hbl
 cases neg
 ·go_enter Tryz.func67,Tryz.ntmps67
  go_wp2_with (first
   |(go_at_call 132;refine(HCP.out _).mono ?_;rintro e w' ⟨rfl,rfl⟩)
   |fail)
  refine(HC.out _).mono ?_
  rintro e W0 ⟨rfl,d,rfl⟩
  have HB0:Hid (Below w.heap.size w (World.drewN _ d)):=Lib.hid (HBX.out.2.trans (Drw.below (Drw.step _ d) _))
  have HX0:=Lib.hid (HBX.out.1.below (Drw.below (Drw.step _ d) _))
  go_wp2_with (first
   |(go_at_call 134;with_reducible refine(HR.out _).mono ?_;rintro e w' ⟨rfl,rfl⟩)
   |(go_at_call 134;with_reducible refine(HR2.out _).mono ?_;rintro e w' ⟨rfl,rfl⟩)
   |fail)
  refine(HF.out _).mono ?_
  rintro e W1 ⟨v,rfl,hv,hb1⟩
  obtain⟨bo,lo,co,rfl⟩:=hv.shape
  have HV:=Lib.hid hv
  have HX1:=Lib.hid (HX0.out.below hb1)
  have HB1:Hid (Below w.heap.size w W1):=Lib.hid (HB0.out.trans (hb1.mono HB0.out.size))
  clear hv hb1
  go_wp2_with fail
  refine(HF2.out _).mono ?_
  rintro e W2 ⟨v2,rfl,hv2,hb2⟩
  obtain⟨bo2,lo2,co2,rfl⟩:=hv2.shape
  have HV1:=Lib.hid (HV.out.below hb2)
  have HV2:=Lib.hid hv2
  have HX2:=Lib.hid (HX1.out.below hb2)
  have HB2:Hid (Below w.heap.size w W2):=Lib.hid (HB1.out.trans (hb2.mono HB1.out.size))
  clear hv2 hb2
  go_wp2_with fail
  refine(HL.out _ _ _ HB2.out HV1.out HV2.out).mono ?_
  rintro e W3 ⟨rfl,hb3⟩
  have HV31:=Lib.hid (HV1.out.below hb3)
  have HV32:=Lib.hid (HV2.out.below hb3)
  have HX3:=Lib.hid (HX2.out.below hb3)
  have HB3:Hid (Below w.heap.size w W3):=Lib.hid (HB2.out.trans (hb3.mono HB2.out.size))
  clear hb3
  go_wp2_with fail
  refine(HK.out _ _ _ HB3.out HV31.out HV32.out).mono ?_
  rintro e W4 ⟨v4,rfl,h4,hb4⟩
  obtain⟨s2,o2,l2,c2,o22,l22,c22,x2,rfl⟩:=h4.shape
  have HX4:=Lib.hid (HX3.out.below hb4)
  have HB4:Hid (Below w.heap.size w W4):=Lib.hid (HB3.out.trans (hb4.mono HB3.out.size))
  have H4:=Lib.hid h4
  clear h4 hb4
  have cC:=HX4.out.cell
  have fC:=HX4.out.free
  have lC:=HX4.out.lt
  go_wp2_with fail
  refine bodyPost_ret (v:=.tuple #[.agg #[.bool s2,.slice o2 l2 c2,.slice o22 l22 c22,.int .i64 x2],.int .i64 0]) (by simp[results,Tryz.results67,go_sem,cC,lC]) rfl ?_
  have ho:=Stored.only w.heap.size W4 s2 o2 l2 c2 o22 l22 c22 x2
  exact⟨_,rfl,H4.out.only ho HX4.out.noW,HB4.out.trans (ho.below HB4.out.size (Nat.le_refl _))⟩
 ·go_enter Tryz.func67,Tryz.ntmps67
  go_wp2_with (first
   |(go_at_call 132;refine(HCP.out _).mono ?_;rintro e w' ⟨rfl,rfl⟩)
   |fail)
  refine(HC.out _).mono ?_
  rintro e W0 ⟨rfl,d,rfl⟩
  have HB0:Hid (Below w.heap.size w (World.drewN _ d)):=Lib.hid (HBX.out.2.trans (Drw.below (Drw.step _ d) _))
  have HX0:=Lib.hid (HBX.out.1.below (Drw.below (Drw.step _ d) _))
  go_wp2_with (first
   |(go_at_call 134;with_reducible refine(HR.out _).mono ?_;rintro e w' ⟨rfl,rfl⟩)
   |(go_at_call 134;with_reducible refine(HR2.out _).mono ?_;rintro e w' ⟨rfl,rfl⟩)
   |fail)
  refine(HF.out _).mono ?_
  rintro e W1 ⟨v,rfl,hv,hb1⟩
  obtain⟨bo,lo,co,rfl⟩:=hv.shape
  have HV:=Lib.hid hv
  have HX1:=Lib.hid (HX0.out.below hb1)
  have HB1:Hid (Below w.heap.size w W1):=Lib.hid (HB0.out.trans (hb1.mono HB0.out.size))
  clear hv hb1
  go_wp2_with fail
  refine(HF2.out _).mono ?_
  rintro e W2 ⟨v2,rfl,hv2,hb2⟩
  obtain⟨bo2,lo2,co2,rfl⟩:=hv2.shape
  have HV1:=Lib.hid (HV.out.below hb2)
  have HV2:=Lib.hid hv2
  have HX2:=Lib.hid (HX1.out.below hb2)
  have HB2:Hid (Below w.heap.size w W2):=Lib.hid (HB1.out.trans (hb2.mono HB1.out.size))
  clear hv2 hb2
  go_wp2_with fail
  refine(HL.out _ _ _ HB2.out HV1.out HV2.out).mono ?_
  rintro e W3 ⟨rfl,hb3⟩
  have HV31:=Lib.hid (HV1.out.below hb3)
  have HV32:=Lib.hid (HV2.out.below hb3)
  have HX3:=Lib.hid (HX2.out.below hb3)
  have HB3:Hid (Below w.heap.size w W3):=Lib.hid (HB2.out.trans (hb3.mono HB2.out.size))
  clear hb3
  go_wp2_with fail
  refine(HK.out _ _ _ HB3.out HV31.out HV32.out).mono ?_
  rintro e W4 ⟨v4,rfl,h4,hb4⟩
  obtain⟨s2,o2,l2,c2,o22,l22,c22,x2,rfl⟩:=h4.shape
  have HX4:=Lib.hid (HX3.out.below hb4)
  have HB4:Hid (Below w.heap.size w W4):=Lib.hid (HB3.out.trans (hb4.mono HB3.out.size))
  have H4:=Lib.hid h4
  clear h4 hb4
  have cC:=HX4.out.cell
  have fC:=HX4.out.free
  have lC:=HX4.out.lt
  go_wp2_with fail
  refine bodyPost_ret (v:=.tuple #[.agg #[.bool s2,.slice o2 l2 c2,.slice o22 l22 c22,.int .i64 x2],.int .i64 0]) (by simp[results,Tryz.results67,go_sem,cC,lC]) rfl ?_
  have ho:=Stored.only w.heap.size W4 s2 o2 l2 c2 o22 l22 c22 x2
  exact⟨_,rfl,H4.out.only ho HX4.out.noW,HB4.out.trans (ho.below HB4.out.size (Nat.le_refl _))⟩
end Go.Proofs.YtedhbbjlbgpafaaGreatDoor
