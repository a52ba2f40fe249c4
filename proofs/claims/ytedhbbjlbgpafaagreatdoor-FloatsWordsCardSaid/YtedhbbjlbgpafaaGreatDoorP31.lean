/-
  Texts that are read: what the library gives: strings.CutPrefix, strings.Cut at one byte, strconv.ParseUint of digits.
-/
import Derived.Test.YtedhbbjlbgpafaaGreatDoorP30
import Derived.Shelf.Small.Wraps
import Derived.Shelf.Strings.Search2
import Derived.Shelf.Strconv.ParseUint10b64
import Derived.Lib.CutLaws
import Derived.Lib.AtoiErrMem
set_option linter.unusedVariables false
set_option linter.unusedSimpArgs false
set_option maxRecDepth 1000000
set_option maxHeartbeats 2000000
namespace Go.Proofs
open Go.Shelf
def Tryz.lays103_ren:Go.Shelf.Ren:=⟨fun|103=>132|210=>205|206=>240|n=>n,fun|9=>9|4=>4|24=>154|3=>3|n=>n,fun|n=>n⟩
theorem Tryz.lays103:Go.Proofs.Lays.n103 Tryz.prog Tryz.lays103_ren:=
 {mixed:=by kernel_rfl,
  f103:=Tryz.func132.trans (congrArg some (by kernel_rfl)),
  f206:=Tryz.func240.trans (congrArg some (by kernel_rfl)),
  f210:=Tryz.func205.trans (congrArg some (by kernel_rfl)),
  t3:=Tryz.underlying3,
  a3:=Tryz.isAgg3,
  z3:=Tryz.sizeOf3,
  v3:=Tryz.zeroValue3,
  t4:=Tryz.underlying4,
  a4:=Tryz.isAgg4,
  z4:=Tryz.sizeOf4,
  v4:=Tryz.zeroValue4,
  t9:=Tryz.underlying9,
  a9:=Tryz.isAgg9,
  z9:=Tryz.sizeOf9,
  v9:=Tryz.zeroValue9,
  t24:=Tryz.underlying154,
  a24:=Tryz.isAgg154,
  z24:=Tryz.sizeOf154,
  v24:=Tryz.zeroValue154}
def Tryz.lays219_ren:Go.Shelf.Ren:=⟨fun|219=>241|217=>274|225=>275|224=>276|267=>277|266=>298|314=>299|n=>n,fun|9=>9|3=>3|4=>4|5=>5|46=>179|146=>286|51=>285|n=>n,fun|1=>1|n=>n⟩
theorem Tryz.lays219:Go.Proofs.Lays.n219 Tryz.prog Tryz.lays219_ren:=
 {mixed:=by kernel_rfl,
  f217:=Tryz.func274.trans (congrArg some (by kernel_rfl)),
  f219:=Tryz.func241.trans (congrArg some (by kernel_rfl)),
  f224:=Tryz.func276.trans (congrArg some (by kernel_rfl)),
  f225:=Tryz.func275.trans (congrArg some (by kernel_rfl)),
  f266:=Tryz.func298.trans (congrArg some (by kernel_rfl)),
  f267:=Tryz.func277.trans (congrArg some (by kernel_rfl)),
  f314:=Tryz.func299.trans (congrArg some (by kernel_rfl)),
  t3:=Tryz.underlying3,
  a3:=Tryz.isAgg3,
  z3:=Tryz.sizeOf3,
  v3:=Tryz.zeroValue3,
  t4:=Tryz.underlying4,
  a4:=Tryz.isAgg4,
  z4:=Tryz.sizeOf4,
  v4:=Tryz.zeroValue4,
  t5:=Tryz.underlying5,
  a5:=Tryz.isAgg5,
  z5:=Tryz.sizeOf5,
  v5:=Tryz.zeroValue5,
  t9:=Tryz.underlying9,
  a9:=Tryz.isAgg9,
  z9:=Tryz.sizeOf9,
  v9:=Tryz.zeroValue9,
  t46:=Tryz.underlying179,
  a46:=Tryz.isAgg179,
  z46:=Tryz.sizeOf179,
  v46:=Tryz.zeroValue179,
  t51:=Tryz.underlying285,
  a51:=Tryz.isAgg285,
  z51:=Tryz.sizeOf285,
  v51:=Tryz.zeroValue285,
  t146:=Tryz.underlying286,
  a146:=Tryz.isAgg286,
  z146:=Tryz.sizeOf286,
  v146:=Tryz.zeroValue286,
  g1:=by kernel_rfl}
def Tryz.lays287_ren:Go.Shelf.Ren:=⟨fun|287=>243|321=>278|322=>279|n=>n,fun|9=>9|3=>3|53=>24|75=>216|4=>4|167=>270|5=>5|46=>179|37=>210|0=>0|21=>21|80=>153|n=>n,fun|n=>n⟩
theorem Tryz.lays287:Go.Proofs.Lays.n287 Tryz.prog Tryz.lays287_ren:=
 {mixed:=by kernel_rfl,
  f287:=Tryz.func243.trans (congrArg some (by kernel_rfl)),
  f321:=Tryz.func278.trans (congrArg some (by kernel_rfl)),
  f322:=Tryz.func279.trans (congrArg some (by kernel_rfl)),
  t0:=Tryz.underlying0,
  a0:=Tryz.isAgg0,
  z0:=Tryz.sizeOf0,
  v0:=Tryz.zeroValue0,
  t3:=Tryz.underlying3,
  a3:=Tryz.isAgg3,
  z3:=Tryz.sizeOf3,
  v3:=Tryz.zeroValue3,
  t4:=Tryz.underlying4,
  a4:=Tryz.isAgg4,
  z4:=Tryz.sizeOf4,
  v4:=Tryz.zeroValue4,
  t5:=Tryz.underlying5,
  a5:=Tryz.isAgg5,
  z5:=Tryz.sizeOf5,
  v5:=Tryz.zeroValue5,
  t9:=Tryz.underlying9,
  a9:=Tryz.isAgg9,
  z9:=Tryz.sizeOf9,
  v9:=Tryz.zeroValue9,
  t21:=Tryz.underlying21,
  a21:=Tryz.isAgg21,
  z21:=Tryz.sizeOf21,
  v21:=Tryz.zeroValue21,
  t37:=Tryz.underlying210,
  a37:=Tryz.isAgg210,
  z37:=Tryz.sizeOf210,
  v37:=Tryz.zeroValue210,
  t46:=Tryz.underlying179,
  a46:=Tryz.isAgg179,
  z46:=Tryz.sizeOf179,
  v46:=Tryz.zeroValue179,
  t53:=Tryz.underlying24,
  a53:=Tryz.isAgg24,
  z53:=Tryz.sizeOf24,
  v53:=Tryz.zeroValue24,
  t75:=Tryz.underlying216,
  a75:=Tryz.isAgg216,
  z75:=Tryz.sizeOf216,
  v75:=Tryz.zeroValue216,
  t167:=Tryz.underlying270,
  a167:=Tryz.isAgg270,
  z167:=Tryz.sizeOf270,
  v167:=Tryz.zeroValue270}
end Go.Proofs
namespace Go.Proofs.YtedhbbjlbgpafaaGreatDoor
open Go.RowKit Go.Shelf Go.Lib
theorem ba_get(l:List UInt8)(k:Nat)(h:k<l.length):(⟨l.toArray⟩:ByteArray)[k]'(by simpa [ByteArray.size]using h)=l[k]:=rfl
theorem ba_ext(x y:List UInt8)(i:Nat)(h:i=x.length):(⟨(x++y).toArray⟩:ByteArray).extract 0 i=⟨x.toArray⟩:=by
 rw[Lib.extract_eq];simp[h]
theorem ba_rest(x y:List UInt8)(i n:Nat)(h:i=x.length)(hn:n=(x++y).length):(⟨(x++y).toArray⟩:ByteArray).extract i n=⟨y.toArray⟩:=by
 rw[Lib.extract_eq];simp[h,hn]
theorem cutPrefix_any(w:World)(s:List UInt8)(c:UInt8):Calls Tryz.prog 132 #[.string ⟨s.toArray⟩,.string ⟨#[c]⟩] w fun e w'=>e=.returned (.tuple #[.string ⟨(Lib.trimPrefix s [c]).toArray⟩,.bool (Lib.hasPrefix s [c])])∧w'=w:=
 Any.strings_CutPrefix Tryz.lays103 ⟨s.toArray⟩ ⟨#[c]⟩ w
theorem index_hit(p q:List UInt8)(c:UInt8)(h:c∉p):Lib.indexByte (p++c::q) c=p.length:=by
 induction p with
 |nil=>simp[Lib.indexByte]
 |cons b p ih=>
  simp only[List.mem_cons,not_or]at h
  have hb:(b==c)=false:=by simp;exact fun e=>h.1 e.symm
  have:=ih h.2
  simp only[List.cons_append,Lib.indexByte,hb,this]
  simp
theorem index_miss(p:List UInt8)(c:UInt8)(h:c∉p):Lib.indexByte p c= -1:=by
 induction p with
 |nil=>rfl
 |cons b p ih=>
  simp only[List.mem_cons,not_or]at h
  have hb:(b==c)=false:=by simp;exact fun e=>h.1 e.symm
  simp only[Lib.indexByte,hb,ih h.2]
  simp
theorem cutIn_hit(w:World)(p q:List UInt8)(c:UInt8)(h:c∉p)(hp:p.length≤1000000):Calls Tryz.prog 206 #[.string ⟨(p++c::q).toArray⟩,.string ⟨#[c]⟩] w fun e w'=>e=.returned (.tuple #[.string ⟨p.toArray⟩,.string ⟨q.toArray⟩,.bool true])∧ ∃n,w'=w.drewN n:=by
 have hI:=Lib.hid (Any.stringslite_Index_one Tryz.lays219 ⟨(p++c::q).toArray⟩ c w)
 rw[show Lib.indexByte (⟨(p++c::q).toArray⟩:ByteArray).data.toList c=p.length from index_hit p q c h]at hI
 have c1:(0:Int)≤ ↑p.length:=by omega
 have hs:(⟨(p++c::q).toArray⟩:ByteArray).size=p.length+(q.length+1):=by simp[ByteArray.size]
 have hs1:(⟨#[c]⟩:ByteArray).size=1:=rfl
 have c2:(↑p.length:Int)≤ ↑(⟨(p++c::q).toArray⟩:ByteArray).size:=by omega
 have c3:(0:Int)≤ ↑p.length+ ↑(⟨#[c]⟩:ByteArray).size:=by omega
 have c4:(↑p.length+ ↑(⟨#[c]⟩:ByteArray).size:Int)≤ ↑(⟨(p++c::q).toArray⟩:ByteArray).size:=by omega
 have e1:(⟨p.toArray⟩:ByteArray)=(⟨(p++c::q).toArray⟩:ByteArray).extract 0 p.length:=(ba_ext p (c::q) _ rfl).symm
 have e2:(⟨q.toArray⟩:ByteArray)=(⟨(p++c::q).toArray⟩:ByteArray).extract (p.length+(⟨#[c]⟩:ByteArray).size) (⟨(p++c::q).toArray⟩:ByteArray).size:=by
  have:=ba_rest (p++[c]) q (p.length+1) (p.length+(q.length+1)) (by simp) (by simp)
  rw[hs,hs1]
  simpa using this.symm
 rw[e1,e2]
 generalize (⟨(p++c::q).toArray⟩:ByteArray)=S at*
 generalize hsep:(⟨#[c]⟩:ByteArray)=sep at*
 generalize hk:p.length=k at*
 have hw:IntKind.i64.wrap ((k:Int)+(sep.size:Int))=(k:Int)+sep.size:=IntWalk.i64_in _ (by omega)
 clear e1 e2 h hs hs1
 have mixed:=Tryz.lays219.mixed
 go_enter Tryz.func206,Tryz.ntmps206
 go_wp2_with (go_at_call 241;refine hI.out.mono ?_;rintro e w' ⟨rfl,rfl⟩)
 go_region_o
 go_wp2
 go_ret3
 exact⟨rfl,1,rfl⟩
theorem cutIn_miss(w:World)(p:List UInt8)(c:UInt8)(h:c∉p):Calls Tryz.prog 206 #[.string ⟨p.toArray⟩,.string ⟨#[c]⟩] w fun e w'=>e=.returned (.tuple #[.string ⟨p.toArray⟩,.string ByteArray.empty,.bool false])∧w'=w:=by
 have hI:=Lib.hid (Any.stringslite_Index_one Tryz.lays219 ⟨p.toArray⟩ c w)
 rw[show Lib.indexByte (⟨p.toArray⟩:ByteArray).data.toList c= -1 from index_miss p c h]at hI
 generalize (⟨p.toArray⟩:ByteArray)=S at*
 generalize hsep:(⟨#[c]⟩:ByteArray)=sep at*
 have mixed:=Tryz.lays219.mixed
 go_enter Tryz.func206,Tryz.ntmps206
 go_wp2_with (go_at_call 241;refine hI.out.mono ?_;rintro e w' ⟨rfl,rfl⟩)
 go_ret3
 exact⟨rfl,rfl⟩
theorem cut_hit(w:World)(p q:List UInt8)(c:UInt8)(h:c∉p)(hp:p.length≤1000000):Calls Tryz.prog 133 #[.string ⟨(p++c::q).toArray⟩,.string ⟨#[c]⟩] w fun e w'=>e=.returned (.tuple #[.string ⟨p.toArray⟩,.string ⟨q.toArray⟩,.bool true])∧ ∃n,w'=w.drewN n:=by
 have hI:=Lib.hid (cutIn_hit w p q c h hp)
 generalize (⟨(p++c::q).toArray⟩:ByteArray)=S at*
 generalize (⟨p.toArray⟩:ByteArray)=S1 at*
 generalize (⟨q.toArray⟩:ByteArray)=S2 at*
 generalize (⟨#[c]⟩:ByteArray)=sep at*
 go_enter Tryz.func133,Tryz.ntmps133
 go_wp2_with (go_at_call 206;refine hI.out.mono ?_;rintro e w' ⟨rfl,n,rfl⟩)
 go_ret3
 exact⟨rfl,n,rfl⟩
theorem cut_miss(w:World)(p:List UInt8)(c:UInt8)(h:c∉p):Calls Tryz.prog 133 #[.string ⟨p.toArray⟩,.string ⟨#[c]⟩] w fun e w'=>e=.returned (.tuple #[.string ⟨p.toArray⟩,.string ByteArray.empty,.bool false])∧w'=w:=by
 have hI:=Lib.hid (cutIn_miss w p c h)
 generalize (⟨p.toArray⟩:ByteArray)=S at*
 generalize (⟨#[c]⟩:ByteArray)=sep at*
 go_enter Tryz.func133,Tryz.ntmps133
 go_wp2_with (go_at_call 206;refine hI.out.mono ?_;rintro e w' ⟨rfl,rfl⟩)
 go_ret3
 exact⟨rfl,rfl⟩
def isDg(b:UInt8):Bool:=decide (48≤b.toNat∧b.toNat≤57)
def decV(l:List UInt8):Nat:=l.foldl (fun a b=>a*10+(b.toNat-48)) 0
theorem decF(l:List UInt8)(a:Nat):l.foldl (fun a b=>a*10+(b.toNat-48)) a=a*10^l.length+decV l:=by
 induction l generalizing a with
 |nil=>simp[decV]
 |cons b l ih=>
  simp only[List.foldl_cons,decV,List.length_cons]
  rw[ih,ih (0*10+_),Nat.pow_succ,Nat.add_mul,Nat.zero_mul,Nat.zero_add,Nat.mul_assoc,Nat.mul_comm 10,Nat.add_assoc]
theorem decV_append(x y:List UInt8):decV (x++y)=decV x*10^y.length+decV y:=by
 unfold decV
 rw[List.foldl_append,decF]
 rfl
theorem decV_lt{l:List UInt8}(h:l.all isDg=true):decV l<10^l.length:=by
 induction l with
 |nil=>simp[decV]
 |cons b l ih=>
  simp only[List.all_cons,Bool.and_eq_true]at h
  have h1:=of_decide_eq_true h.1
  have:=ih h.2
  have e:=decV_append [b] l
  rw[show [b]++l=b::l from rfl]at e
  have e2:decV [b]=b.toNat-48:=by simp[decV]
  rw[e,e2,List.length_cons,Nat.pow_succ]
  have:(b.toNat-48)*10^l.length≤9*10^l.length:=Nat.mul_le_mul_right _ (by omega)
  omega
theorem parse_digits(l:List UInt8)(h:l.all isDg=true)(a:Nat)(hl:(a+1)*10^l.length≤10^19):Lib.parseUint10 a l=.ok (a*10^l.length+decV l):=by
 induction l generalizing a with
 |nil=>simp[Lib.parseUint10,decV]
 |cons b l ih=>
  simp only[List.all_cons,Bool.and_eq_true]at h
  have h1:=of_decide_eq_true h.1
  rw[List.length_cons,Nat.pow_succ]at hl
  have h3:(a*10+(b.toNat-48)+1)*10^l.length≤10^19:=by
   refine Nat.le_trans ?_ hl
   rw[Nat.mul_comm (10^l.length),←Nat.mul_assoc]
   exact Nat.mul_le_mul_right _ (by omega)
  have hp:0<10^l.length:=Nat.pow_pos (by omega)
  have h4:a*10+(b.toNat-48)+1≤10^19:=Nat.le_trans (Nat.le_mul_of_pos_right _ hp) h3
  unfold Lib.parseUint10
  rw[if_pos h1,if_neg (by omega),if_neg (by omega),ih h.2 _ h3]
  have e:=decV_append [b] l
  rw[show [b]++l=b::l from rfl]at e
  have e2:decV [b]=b.toNat-48:=by simp[decV]
  rw[e,e2,List.length_cons,Nat.pow_succ]
  congr 1
  rw[Nat.add_mul,Nat.mul_assoc,Nat.mul_comm 10,Nat.add_assoc]
theorem parseUint_any(w:World)(l:List UInt8)(h0:l≠ [])(h:l.all isDg=true)(hl:l.length≤19):Calls Tryz.prog 208 #[.string ⟨l.toArray⟩,.int .i64 10,.int .i64 64] w fun e w'=>e=.returned (.tuple #[.int .u64 (decV l:Nat),.nilIface])∧Below w.heap.size w w':=by
 have hsz:(⟨l.toArray⟩:ByteArray).size=l.length:=by simp[ByteArray.size]
 have hI:=Any.internal_strconv_ParseUint_10_b64 Tryz.lays287 ⟨l.toArray⟩ (by rw[hsz];have:=List.length_pos_iff.2 h0;omega) (by rw[hsz];omega) w
 have hp:=parse_digits l h 0 (by rw[Nat.zero_add,Nat.one_mul];exact Nat.pow_le_pow_right (by omega) hl)
 rw[Nat.zero_mul,Nat.zero_add]at hp
 rw[show(⟨l.toArray⟩:ByteArray).data.toList=l from rfl,hp]at hI
 have hb:=Lib.bytesWorld_below w (Tryz.lays287_ren.t 5) ⟨l.toArray⟩
 have HI:Hid (Calls Tryz.prog 243 #[.string ⟨l.toArray⟩,.int .i64 10,.int .i64 64] w fun e w'=>e=.returned (.tuple #[.int .u64 (decV l:Nat),.nilIface])∧Below w.heap.size w w'):=Lib.hid (hI.mono fun e w' h=>⟨h.1,by rw[h.2];exact hb⟩)
 generalize ((decV l:Nat):Int)=u at HI⊢
 clear hI hb hp
 generalize (⟨l.toArray⟩:ByteArray)=S at*
 clear hsz
 go_enter Tryz.func208,Tryz.ntmps208
 go_wp2_with (go_at_call 243;refine HI.out.mono ?_;rintro e w1 ⟨rfl,hb⟩)
 go_ret2
 exact⟨rfl,hb⟩
def rowB(l:List UInt8):Bool:=l.all isDg&&(l==[48]||(!l.isEmpty&&l.head? !=some 48))
theorem row_bad{l:List UInt8}{k:Nat}(h:k<l.length)(hd:isDg l[k]=false):rowB l=false:=by
 have:l.all isDg=false:=by
  rw[List.all_eq_false]
  exact⟨l[k],List.getElem_mem h,by simp[hd]⟩
 unfold rowB
 rw[this];rfl
theorem isRow_any(w:World)(l:List UInt8)(hl:l.length≤1000000):Calls Tryz.prog 134 #[.string ⟨l.toArray⟩] w fun e w'=>e=.returned (.bool (rowB l))∧w'=w:=by
 have hsz:(⟨l.toArray⟩:ByteArray).size=l.length:=by simp[ByteArray.size]
 go_enter Tryz.func134,Tryz.ntmps134
 go_wp2
 go_loop [6] (fun vi=> ∃(k:Nat),k≤l.length∧vi=.int .i64 k∧Hid ((l.take k).all isDg=true)) (fun vi=>l.length-(RowKit.intOf vi).toNat)
 case atStart=>exact⟨0,Nat.zero_le _,rfl,Lib.hid rfl⟩
 case round=>
  obtain⟨k,hk,rfl,hd⟩:=hrel
  go_wp2
  ·have hlt:k<l.length:=by assumption
   have h1:((⟨l.toArray⟩:ByteArray)[k].toNat:Int)<48∨57<((⟨l.toArray⟩:ByteArray)[k].toNat:Int):=by assumption
   rw[ba_get l k hlt]at h1
   go_ret
   exact⟨by rw[row_bad hlt (by unfold isDg;exact decide_eq_false (by omega))];rfl,rfl⟩
  ·have hlt:k<l.length:=by assumption
   have h1:48≤((⟨l.toArray⟩:ByteArray)[k].toNat:Int)∧((⟨l.toArray⟩:ByteArray)[k].toNat:Int)≤57:=by assumption
   rw[ba_get l k hlt]at h1
   go_round
   case rel=>exact⟨k+1,by omega,by go_num,Lib.hid (by rw[List.take_succ_eq_append_getElem hlt,List.all_append,hd.out];simp only[List.all_cons,List.all_nil,Bool.and_true,Bool.true_and];unfold isDg;exact decide_eq_true (by omega))⟩
   case measure=>simp[RowKit.intOf];omega
  ·have hlt:k<l.length:=by assumption
   have h1:((⟨l.toArray⟩:ByteArray)[k].toNat:Int)<48:=by assumption
   rw[ba_get l k hlt]at h1
   go_ret
   exact⟨by rw[row_bad hlt (by unfold isDg;exact decide_eq_false (by omega))];rfl,rfl⟩
  ·go_ret
   exact⟨rfl,rfl⟩
  ·go_ret
   exact⟨rfl,rfl⟩
  ·have h0:0<l.length:=by assumption
   have h48: ¬l=[48]:=by assumption
   have hge: ¬k<l.length:=by assumption
   have ha:l.all isDg=true:=by have:=hd.out;rwa [List.take_of_length_le (by omega)]at this
   go_ret
   refine⟨?_,rfl⟩
   show Ending.returned (Value.bool (l==[48]|| !l.isEmpty&&((⟨l.toArray⟩:ByteArray)[0].toNat:Int) !=48))=_
   rw[ba_get l 0 h0]
   unfold rowB
   rw[ha,Bool.true_and]
   cases l with
   |nil=>rfl
   |cons b l=>
    have e:((b.toNat:Int) !=48)=(some b !=some 48):=by
     rw[Bool.eq_iff_iff,bne_iff_ne,bne_iff_ne]
     exact⟨fun h c=>h (by injection c with c;rw[c];rfl),fun h c=>h (congrArg some (UInt8.toNat_inj.1 (by show b.toNat=48;omega)))⟩
    show Ending.returned (Value.bool (_||_&&((b.toNat:Int) !=48)))=_
    rw[e]
    rfl
  ·exact absurd (List.length_pos_iff.2 (by assumption)) (by assumption)
end Go.Proofs.YtedhbbjlbgpafaaGreatDoor
