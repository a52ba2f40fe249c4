/-
  Parse of the text of a number is the number.
-/
import Derived.Test.YtedhbbjlbgpafaaGreatDoorP34
set_option linter.unusedVariables false
set_option linter.unusedSimpArgs false
namespace Go.Proofs.YtedhbbjlbgpafaaGreatDoor
open Go.RowKit Go.Shelf
theorem dg_byte{u:Nat}(h:u<10):isDg (UInt8.ofNat (48+u))=true∧(UInt8.ofNat (48+u)).toNat=48+u:=by
 have e:(UInt8.ofNat (48+u)).toNat=48+u:=by simp;omega
 exact⟨by unfold isDg;rw[e];exact decide_eq_true (by omega),e⟩
theorem dec_ok(n:Nat):(Lib.decDigits n).all isDg=true∧decV (Lib.decDigits n)=n∧(0<n→(Lib.decDigits n).head?≠some 48)∧Lib.decDigits n≠ []:=by
 induction n using Nat.strongRecOn with
 |ind n ih=>
  rw[Lib.decDigits]
  split
  ·rename_i h
   obtain⟨h1,h2⟩:=dg_byte h
   generalize UInt8.ofNat (48+n)=c at*
   refine⟨by simp[h1],by simp[decV,h2],fun h0 hc=>?_,by simp⟩
   have:=congrArg (fun o=>(o.map UInt8.toNat).getD 0) hc
   simp only[List.head?_cons,Option.map_some,Option.getD_some,h2]at this
   have e:(48:UInt8).toNat=48:=rfl
   omega
  ·rename_i h
   obtain⟨a1,a2,a3,a4⟩:=ih (n/10) (by omega)
   obtain⟨h1,h2⟩:=dg_byte (show n%10<10 by omega)
   generalize UInt8.ofNat (48+n%10)=c at*
   refine⟨by rw[List.all_append,a1];simp[h1],?_,fun _=>?_,by simp⟩
   ·rw[decV_append,a2]
    have:decV [c]=n%10:=by simp[decV,h2]
    rw[this]
    simp
    omega
   ·have:=a3 (by omega)
    cases hd:Lib.decDigits (n/10)with
    |nil=>exact absurd hd a4
    |cons b l=>rw[hd]at this;exact this
theorem dec_row(n:Nat):rowB (Lib.decDigits n)=true:=by
 obtain⟨a1,a2,a3,a4⟩:=dec_ok n
 unfold rowB
 rw[a1,Bool.true_and]
 by_cases h:n=0
 ·subst h;rw[Lib.decDigits_one (by omega)];rfl
 ·have h3:=a3 (by omega)
  rw[Bool.or_eq_true]
  refine .inr ?_
  rw[Bool.and_eq_true,bne_iff_ne]
  exact⟨by cases hd:Lib.decDigits n with
   |nil=>exact absurd hd a4
   |cons b l=>rfl,h3⟩
theorem odd_pow{a b:Int}{i j:Nat}(ha:a%2=1)(hb:b%2=1)(h:a*2^i=b*2^j):i=j∧a=b:=by
 have step: ∀{a b:Int} {i j:Nat},a%2=1→i≤j→a*2^i=b*2^j→i=j∧a=b:=by
  intro a b i j ha hij h
  obtain⟨c,rfl⟩: ∃c,j=i+c:=⟨j-i,by omega⟩
  rw[Int.pow_add,Int.mul_comm (2^i),←Int.mul_assoc]at h
  have h1:=Int.eq_of_mul_eq_mul_right (show(2:Int)^i≠0 by have:=p2pos i;omega) h
  cases c with
  |zero=>exact⟨rfl,by rw[h1];simp⟩
  |succ c=>rw[Int.pow_succ,←Int.mul_assoc]at h1;omega
 rcases Nat.le_total i j with hij|hij
 ·exact step ha hij h
 ·obtain⟨h1,h2⟩:=step hb hij h.symm
  exact⟨h1.symm,h2.symm⟩
theorem sg_inj{s s':Bool}{x y:Int}(hx:0<x)(hy:0<y)(h:sg s x=sg s' y):s=s'∧x=y:=by
 cases s<;>cases s'<;>simp only[sg]at h<;>first|exact⟨rfl,by simpa using h⟩|(exfalso;simp at h;omega)
theorem Dn.conv{w:World}{v:Value}{s:Bool}{t e K k m:Int}{a:Nat}(h:Dr s t e K k)(h2:Dn w v (sg s (t*2^a)) m)(hm:m+a=e):Dn w v K k:=by
 obtain⟨s',t',e',n',d'⟩:=h2
 refine⟨s',t',e',n',?_⟩
 rcases h with⟨rfl,rfl,rfl,rfl⟩|⟨ho,hp,j,rfl,rfl⟩
 ·rw[Int.zero_mul,sg_zero]at d'
  rcases d' with⟨rfl,rfl,rfl,_⟩|⟨ho,hp,j,_,h⟩
  ·exact .inl ⟨rfl,rfl,rfl,rfl⟩
  ·exfalso
   have:=Int.mul_pos hp (p2pos j)
   cases s'
   ·simp[sg]at h;omega
   ·simp only[sg,if_true,Int.neg_mul]at h;omega
 ·have ha:=Int.mul_pos hp (p2pos a)
  rcases d' with⟨_,_,_,h⟩|⟨ho',hp',j',rfl,h⟩
  ·exfalso
   cases s
   ·simp[sg]at h;omega
   ·simp only[sg,if_true]at h;omega
  ·have hj':=Int.mul_pos hp' (p2pos j')
   have e1:sg s' t'*2^j'=sg s' (t'*2^j'):=by
    cases s'
    ·rfl
    ·exact Int.neg_mul _ _
   rw[e1]at h
   obtain⟨rfl,h5⟩:=sg_inj ha hj' h
   obtain⟨rfl,rfl⟩:=odd_pow ho ho' h5
   exact .inr ⟨ho,hp,j,by omega,rfl⟩
theorem sg_toNat(s:Bool)(t:Int)(h:0≤t):sg s ((t.toNat:Nat):Int)=sg s t:=by rw[Int.toNat_of_nonneg h]
theorem dec_len{n k:Nat}(h:n<10^(k+1)):(Lib.decDigits n).length≤k+1:=by
 rw[Lib.decDigits_length]
 exact nDigits_le k n h
theorem parse_tx(w:World)(hE:Env w)(s:Bool)(t e K k:Int)(h:Dr s t e K k)(h1:(t*2^e.toNat).toNat<10^(1999+1))(h2:2^(-e).toNat<10^(1999+1)):
 Calls Tryz.prog 67 #[.string ⟨(txS s t 1 e).toArray⟩] w fun en w'=> ∃v,en=.returned (.tuple #[v,.int .i64 0])∧Dn w' v K k∧Below w.heap.size w w':=by
 have l1:=dec_len h1
 have l2:=dec_len h2
 clear h1 h2
 by_cases hz:t=0
 ·have hh:=h
  rcases h with⟨rfl,rfl,rfl,rfl⟩|⟨_,hp,_⟩
  ·have hp:=parse_whole w hE false [48] rfl (by simp) (by simp)
   have e1:txS false 0 1 0=(if false=true then [45]else [])++[48]:=by unfold txS;rw[if_pos rfl];rfl
   rw[e1]
   refine hp.mono ?_
   rintro en w' ⟨v,rfl,hd,hb⟩
   exact⟨v,rfl,Dn.conv (a:=0) (m:=0) hh (by simpa [decV]using hd) (by omega),hb⟩
  ·omega
 ·have ht:t%2=1∧0<t:=by
   rcases h with⟨ht,_⟩|⟨ho,hp,_⟩
   ·exact absurd ht hz
   ·exact⟨ho,hp⟩
  have T0:=Int.mul_pos ht.2 (p2pos e.toNat)
  by_cases he:0≤e
  ·have e1:txS s t 1 e=(if s=true then [45]else [])++Lib.decDigits (t*2^e.toNat).toNat:=by
    unfold txS
    have hs:(1:Int)*2^(-e).toNat=1:=by rw[show(-e).toNat=0 by omega];rfl
    rw[if_neg hz,if_pos hs,List.append_nil]
   rw[e1]
   obtain⟨a1,a2,a3,a4⟩:=dec_ok (t*2^e.toNat).toNat
   refine(parse_whole w hE s _ (dec_row _) (by omega) (fun _ hc=>?_)).mono ?_
   ·have:=a3 (by omega)
    rw[hc]at this
    exact this rfl
   ·rintro en w' ⟨v,rfl,hd,hb⟩
    rw[a2,sg_toNat s _ (by omega)]at hd
    exact⟨v,rfl,Dn.conv h hd (by omega),hb⟩
  ·have e0:e.toNat=0:=by omega
   rw[e0]at l1
   obtain⟨j,hj⟩: ∃j,(-e).toNat=j:=⟨_,rfl⟩
   rw[hj]at l2
   have hj0:0<j:=by omega
   have p2:(2:Int)≤2^j:=by
    obtain⟨i,rfl⟩: ∃i,j=i+1:=⟨j-1,by omega⟩
    rw[Int.pow_succ]
    have:=p2pos i
    omega
   have en2:((2:Int)^j).toNat=2^j:=by
    have:(((2^j:Nat)):Int)=2^j:=by simp
    rw[←this];rfl
   have e1:txS s t 1 e=(if s=true then [45]else [])++Lib.decDigits (t*2^0).toNat++47::Lib.decDigits (2^j):=by
    unfold txS
    have hs: ¬(1:Int)*2^j=1:=by omega
    rw[if_neg hz,e0,hj,if_neg hs,Int.one_mul,en2]
   rw[e1]
   obtain⟨a1,a2,a3,a4⟩:=dec_ok (t*2^0).toNat
   obtain⟨b1,b2,b3,b4⟩:=dec_ok (2^j)
   have tt:(t*2^0).toNat=t.toNat:=by rw[Int.pow_zero,Int.mul_one]
   refine(parse_frac w hE s _ _ j (dec_row _) (by omega) (dec_row _) (by omega) (by rw[a2,tt];omega) b2 hj0).mono ?_
   rintro en w' ⟨v,rfl,hd,hb⟩
   rw[a2,sg_toNat s _ (by rw[Int.pow_zero,Int.mul_one];omega)]at hd
   exact⟨v,rfl,Dn.conv (a:=0) h hd (by omega),hb⟩
end Go.Proofs.YtedhbbjlbgpafaaGreatDoor
