/-
  strconv.FormatUint at base 10: the decimal digits of a word.
-/
import Derived.Shelf.Strconv.Itoa3
import Derived.Shelf.Strings.Repeat
import Derived.Shelf.Strings.Trim
import Derived.Test.YtedhbbjlbgpafaaGreatDoorP15
import Derived.Lib.AppendStr
import Derived.Deep.RegionHeld3
set_option linter.unusedVariables false
set_option linter.unusedSimpArgs false
set_option maxRecDepth 1000000
set_option maxHeartbeats 2000000
namespace Go.Proofs
open Go.Shelf
def Tryz.lays317_ren:Go.Shelf.Ren:=⟨fun|317=>306|n=>n,fun|3=>3|46=>179|n=>n,fun|n=>n⟩
theorem Tryz.lays317:Go.Proofs.Lays.n317 Tryz.prog Tryz.lays317_ren:=
 {mixed:=by kernel_rfl,
  f317:=Tryz.func306.trans (congrArg some (by kernel_rfl)),
  t3:=Tryz.underlying3,
  a3:=Tryz.isAgg3,
  z3:=Tryz.sizeOf3,
  v3:=Tryz.zeroValue3,
  t46:=Tryz.underlying179,
  a46:=Tryz.isAgg179,
  z46:=Tryz.sizeOf179,
  v46:=Tryz.zeroValue179}
def Tryz.lays318_ren:Go.Shelf.Ren:=⟨fun|318=>307|n=>n,fun|3=>3|4=>4|n=>n,fun|n=>n⟩
theorem Tryz.lays318:Go.Proofs.Lays.n318 Tryz.prog Tryz.lays318_ren:=
 {mixed:=by kernel_rfl,
  f318:=Tryz.func307.trans (congrArg some (by kernel_rfl)),
  t3:=Tryz.underlying3,
  a3:=Tryz.isAgg3,
  z3:=Tryz.sizeOf3,
  v3:=Tryz.zeroValue3,
  t4:=Tryz.underlying4,
  a4:=Tryz.isAgg4,
  z4:=Tryz.sizeOf4,
  v4:=Tryz.zeroValue4}
def Tryz.lays129_ren:Go.Shelf.Ren:=⟨fun|129=>250|n=>n,fun|53=>24|3=>3|4=>4|46=>179|5=>5|9=>9|n=>n,fun|n=>n⟩
theorem Tryz.lays129:Go.Proofs.Lays.n129 Tryz.prog Tryz.lays129_ren:=
 {mixed:=by kernel_rfl,
  f129:=Tryz.func250.trans (congrArg some (by kernel_rfl)),
  t3:=Tryz.underlying3,
  a3:=Tryz.isAgg3,
  z3:=Tryz.sizeOf3,
  v3:=Tryz.zeroValue3,
  t4:=Tryz.underlying4,
  a4:=Tryz.isAgg4,
  z4:=Tryz.sizeOf4,
  v4:=Tryz.zeroValue4,
  t5:=Tryz.underlying5,
  a5:=Tryz.isAgg5,
  z5:=Tryz.sizeOf5,
  v5:=Tryz.zeroValue5,
  t9:=Tryz.underlying9,
  a9:=Tryz.isAgg9,
  z9:=Tryz.sizeOf9,
  v9:=Tryz.zeroValue9,
  t46:=Tryz.underlying179,
  a46:=Tryz.isAgg179,
  z46:=Tryz.sizeOf179,
  v46:=Tryz.zeroValue179,
  t53:=Tryz.underlying24,
  a53:=Tryz.isAgg24,
  z53:=Tryz.sizeOf24,
  v53:=Tryz.zeroValue24}
def Tryz.lays285_ren:Go.Shelf.Ren:=⟨fun|285=>293|n=>n,fun|37=>210|53=>24|3=>3|4=>4|51=>285|9=>9|5=>5|0=>0|n=>n,fun|n=>n⟩
theorem Tryz.lays285:Go.Proofs.Lays.n285 Tryz.prog Tryz.lays285_ren:=
 {mixed:=by kernel_rfl,
  f285:=Tryz.func293.trans (congrArg some (by kernel_rfl)),
  t0:=Tryz.underlying0,
  a0:=Tryz.isAgg0,
  z0:=Tryz.sizeOf0,
  v0:=Tryz.zeroValue0,
  t3:=Tryz.underlying3,
  a3:=Tryz.isAgg3,
  z3:=Tryz.sizeOf3,
  v3:=Tryz.zeroValue3,
  t4:=Tryz.underlying4,
  a4:=Tryz.isAgg4,
  z4:=Tryz.sizeOf4,
  v4:=Tryz.zeroValue4,
  t5:=Tryz.underlying5,
  a5:=Tryz.isAgg5,
  z5:=Tryz.sizeOf5,
  v5:=Tryz.zeroValue5,
  t9:=Tryz.underlying9,
  a9:=Tryz.isAgg9,
  z9:=Tryz.sizeOf9,
  v9:=Tryz.zeroValue9,
  t37:=Tryz.underlying210,
  a37:=Tryz.isAgg210,
  z37:=Tryz.sizeOf210,
  v37:=Tryz.zeroValue210,
  t51:=Tryz.underlying285,
  a51:=Tryz.isAgg285,
  z51:=Tryz.sizeOf285,
  v51:=Tryz.zeroValue285,
  t53:=Tryz.underlying24,
  a53:=Tryz.isAgg24,
  z53:=Tryz.sizeOf24,
  v53:=Tryz.zeroValue24}
def Tryz.lays283_ren:Go.Shelf.Ren:=⟨fun|283=>291|n=>n,fun|3=>3|9=>9|4=>4|n=>n,fun|n=>n⟩
theorem Tryz.lays283:Go.Proofs.Lays.n283 Tryz.prog Tryz.lays283_ren:=
 {mixed:=by kernel_rfl,
  f283:=Tryz.func291.trans (congrArg some (by kernel_rfl)),
  t3:=Tryz.underlying3,
  a3:=Tryz.isAgg3,
  z3:=Tryz.sizeOf3,
  v3:=Tryz.zeroValue3,
  t4:=Tryz.underlying4,
  a4:=Tryz.isAgg4,
  z4:=Tryz.sizeOf4,
  v4:=Tryz.zeroValue4,
  t9:=Tryz.underlying9,
  a9:=Tryz.isAgg9,
  z9:=Tryz.sizeOf9,
  v9:=Tryz.zeroValue9}
end Go.Proofs
namespace Go.Proofs.YtedhbbjlbgpafaaGreatDoor
open Go.RowKit Go.Shelf Go.Lib Go.Sort
def Pow10(w:World):Prop:= ∀i,i<20→w.cell? ⟨9,i,none⟩=some (.int .u64 ((10^i:Nat):Int))
theorem pow10_below{w:World}(h:Pow10 w): ∀w',Below w.heap.size w w'→Pow10 w':=fun w' hb i hi=>by
 have h1:=h i hi
 have hlt:=World.block_lt_of_cell? w _ h1
 exact(hb.cell (p:=⟨9,i,none⟩) hlt).trans h1
def StrPost(w:World)(s:List UInt8)(e:Ending)(w':World):Prop:=e=.returned (.string ⟨s.toArray⟩)∧Below w.heap.size w w'
theorem len64_any(w:World)(x:Int)(h0:0≤x)(h1:x≤18446744073709551615):Calls Tryz.prog 250 #[.int .u64 x] w fun e w'=>e=.returned (.int .i64 (Lib.bitLen x.toNat))∧w'=w:=Any.bits_Len64 Tryz.lays129 x w h0 h1
theorem log10_any(w:World)(x:Nat)(h:x≤64):Calls Tryz.prog 306 #[.int .i64 x] w fun e w'=>e=.returned (.int .i64 (Lib.l10 x))∧w'=w:=Any.internal_strconv_log10Pow2 Tryz.lays317 x h w
theorem bool2_any(w:World)(b:Bool):Calls Tryz.prog 307 #[.bool b] w fun e w'=>e=.returned (.int .i64 (if b then 1 else 0))∧w'=w:=Any.internal_strconv_bool2_int Tryz.lays318 b w
theorem numDigits_any(w:World)(u:Nat)(h1:1≤u)(h2:u<18446744073709551616)(h:Pow10 w):
 Calls Tryz.prog 292 #[.int .u64 u] w fun e w'=>e=.returned (.int .i64 (Lib.nDigits u))∧w'=w:=by
 obtain⟨hnd,h19⟩:=Lib.numDigits_eq u h1 h2
 have hL:Lib.bitLen u≤64:=Lib.bitLen_le u 64 (Nat.le_refl _) h2
 have hc:=h (Lib.l10 (Lib.bitLen u)) (by omega)
 have H1:=Lib.hid (len64_any w u (by omega) (by omega))
 rw[Int.toNat_natCast]at H1
 have H2:=Lib.hid (log10_any w _ hL)
 generalize Lib.bitLen u=L at*
 generalize Lib.l10 L=q at*
 generalize hT:10^q=T at hnd hc
 have H3:=Lib.hid (bool2_any w (decide (T≤u)))
 have hnd2:Hid ((q:Int)+(if decide (T≤u)=true then 1 else 0)=Lib.nDigits u):=Lib.hid (by
  rw[←hnd]
  by_cases hl:T≤u
  ·rw[if_pos hl,decide_eq_true hl,if_pos rfl];omega
  ·rw[if_neg hl,decide_eq_false hl,if_neg (by decide)];omega)
 have hw:IntKind.i64.wrap ((q:Int)+(if decide (T≤u)=true then 1 else 0))=(q:Int)+(if decide (T≤u)=true then 1 else 0):=IntWalk.i64_in _ (by split<;>omega)
 generalize (if decide (T≤u)=true then(1:Int)else 0)=dd at*
 have hq20:q<20:=by omega
 clear hT hnd h
 go_enter Tryz.func292,Tryz.ntmps292
 go_wp2_with fail
 refine H1.out.mono ?_
 rintro e w ⟨rfl,rfl⟩
 go_wp2_with fail
 refine H2.out.mono ?_
 rintro e w ⟨rfl,rfl⟩
 go_wp2_with fail
 refine H3.out.mono ?_
 rintro e w ⟨rfl,rfl⟩
 go_wp2_with fail
 go_ret
 exact⟨congrArg (fun x=>Ending.returned (Value.int .i64 x)) hnd2.out,rfl⟩
theorem small_any(w:World)(i:Nat)(h:i<100):Calls Tryz.prog 291 #[.int .i64 i] w fun e w'=>e=.returned (.string ⟨(Lib.decDigits i).toArray⟩)∧w'=w:=Any.internal_strconv_small Tryz.lays283 i h w
theorem base10_any(w:World)(blk off cap:Nat)(u:Nat)(d:Array UInt8)(hH:Holds (fun(b:UInt8)=>Value.int .u8 (b.toNat:Int)) w blk off d)(hu:u<10^d.size)(hu64:u<18446744073709551616)(hsz:d.size<4611686018427387904):
 Calls Tryz.prog 293 #[.slice (some ⟨blk,off,none⟩) d.size cap,.int .u64 u] w fun e w'=>
  e=.returned (.tuple #[])∧ ∃(n v':Nat) (dk:Array UInt8),w'=(putRow (fun(b:UInt8)=>Value.int .u8 (b.toNat:Int)) w blk off dk).drewN n∧FmtInv d.size u 0 v' dk:=Any.internal_strconv_formatBase10 Tryz.lays285 blk off cap u d w hH hu hu64 hsz
theorem fmtU_any(w:World)(u:Nat)(h2:u<18446744073709551616)(h:Pow10 w):
 Calls Tryz.prog 267 #[.int .u64 u,.int .i64 10] w (StrPost w (Lib.decDigits u)):=by
 by_cases hs:u<100
 ·have hs':(u:Int)<100:=by omega
  go_enter Tryz.func267,Tryz.ntmps267
  go_wp2_with (go_at_call 291;refine(small_any _ u hs).mono ?_;rintro e w' ⟨rfl,rfl⟩)
  all_goals first|(go_ret;exact⟨rfl,Below.refl _ _⟩)
 ·have hs': ¬(u:Int)<100:=by omega
  have hu1:1≤u:=by omega
  have hnd20:Lib.nDigits u≤20:=by have:=Lib.numDigits_eq u hu1 h2;split at this<;>omega
  have hsl1: ∀W,(Instr.sliceAt 281 (.pointer (some ⟨w.heap.size,0,none⟩)) none (some (.int .i64 (Lib.nDigits u:Int))) none).run Tryz.prog W=.ok (.slice (some ⟨w.heap.size,0,none⟩) (Lib.nDigits u) 24) W:=fun W=>by
   rw[run_sliceAt_array_h W 281 ⟨w.heap.size,0,none⟩ (show Tryz.prog.underlying 281=some (.array 24 5)from rfl) .i64 (Lib.nDigits u:Int) (by omega) (by rw[show Tryz.prog.arrayLen 281=24 from rfl];omega)]
   go_simp
  have hH0:Holds (fun(b:UInt8)=>Value.int .u8 (b.toNat:Int)) (w.alloc (.cells Lib.zeros24 281)) w.heap.size 0 (Array.replicate (Lib.nDigits u) (0:UInt8)):=fun j hj=>by
   have hj':j<Lib.nDigits u:=by simpa using hj
   refine⟨?_,World.frozen?_alloc_new _ _ _ _⟩
   rw[World.cell?_alloc_new,Lib.zeros24_at _ (by omega),getElem!_pos _ j hj]
   simp
  have hfmt:=base10_any (w.alloc (.cells Lib.zeros24 281)) w.heap.size 0 24 u (Array.replicate (Lib.nDigits u) 0) hH0 (by rw[Array.size_replicate];exact Lib.lt_pow_nDigits u) h2 (by rw[Array.size_replicate];omega)
  rw[Array.size_replicate]at hfmt
  have HH0:=Lib.hid hH0
  have HND:=Lib.hid (numDigits_any (w.alloc (.cells Lib.zeros24 281)) u hu1 h2 (pow10_below h _ ((Below.refl _ _).alloc (Nat.le_refl _) _)))
  clear hH0
  go_enter Tryz.func267,Tryz.ntmps267
  go_wp2_with fail
  refine HND.out.mono ?_
  rintro e w' ⟨rfl,rfl⟩
  go_wp2_with fail
  refine hfmt.mono ?_
  rintro e w' ⟨rfl,k,v',dk,rfl,hF⟩
  have hcv:(convert 210 9 (.slice (some ⟨w.heap.size,0,none⟩) (Lib.nDigits u) 24)).run Tryz.prog ((putRow (fun(b:UInt8)=>Value.int .u8 (b.toNat:Int)) (w.alloc (.cells Lib.zeros24 281)) w.heap.size 0 dk).drewN k)=.ok (.string ⟨(Lib.decDigits u).toArray⟩) ((putRow (fun(b:UInt8)=>Value.int .u8 (b.toNat:Int)) (w.alloc (.cells Lib.zeros24 281)) w.heap.size 0 dk).drewN k):=by
   have h:=run_convert_bytes_back (P:=Tryz.prog) ((putRow (fun(b:UInt8)=>Value.int .u8 (b.toNat:Int)) (w.alloc (.cells Lib.zeros24 281)) w.heap.size 0 dk).drewN k) 210 9 5 ⟨w.heap.size,0,none⟩ 24 (Lib.decDigits u) rfl rfl rfl (fun j hj=>by
    rw[Lib.row_is_numeral hF j hj,Lib.add_plain,World.cell?_drewN]
    exact cell?_putRow (fun(b:UInt8)=>Value.int .u8 (b.toNat:Int)) _ w.heap.size 0 _ dk HH0.out (by rw[hF.size,Array.size_replicate]) j (by rw[hF.size];rw[Lib.decDigits_length]at hj;exact hj))
   rw[Lib.decDigits_length]at h
   exact h
  go_wp2_with fail
  go_ret
  obtain⟨os,eo⟩: ∃os,(putRow (fun(b:UInt8)=>Value.int .u8 (b.toNat:Int)) (w.alloc (.cells Lib.zeros24 281)) w.heap.size 0 dk).drewN k=grow (w.drewN k) os:=by
   rw[alloc_eq_grow]
   obtain⟨os',_,e⟩:=putRow_grow_new (fun(b:UInt8)=>Value.int .u8 (b.toNat:Int)) w #[.cells Lib.zeros24 281] w.heap.size 0 dk (Nat.le_refl _)
   exact⟨os',by rw[e];rfl⟩
  exact⟨rfl,by rw[eo];exact⟨rfl,rfl,rfl,by show w.heap.size≤(w.heap++os).size;rw[Array.size_append];omega,fun j hj=>by show(w.heap++os)[j]?=w.heap[j]?;rw[Array.getElem?_append_left (by omega)]⟩⟩
theorem fmtUint_any(w:World)(u:Nat)(h2:u<18446744073709551616)(h:Pow10 w):
 Calls Tryz.prog 238 #[.int .u64 u,.int .i64 10] w (StrPost w (Lib.decDigits u)):=by
 have H:=Lib.hid (fmtU_any w u h2 h)
 clear h h2
 go_enter Tryz.func238,Tryz.ntmps238
 go_wp2_with fail
 refine H.out.mono ?_
 rintro e w' ⟨rfl,hb⟩
 go_wp2_with fail
 go_ret
 exact⟨rfl,hb⟩
end Go.Proofs.YtedhbbjlbgpafaaGreatDoor
namespace Go.Proofs
open Go.Shelf
def Tryz.lays105_ren:Go.Shelf.Ren:=⟨fun|105=>239|212=>268|99=>269|165=>270|166=>271|170=>272|169=>273|263=>295|264=>245|206=>240|240=>296|241=>297|276=>310|277=>311|n=>n,fun|9=>9|3=>3|4=>4|20=>20|0=>0|46=>179|109=>261|5=>5|72=>265|76=>267|51=>285|146=>286|53=>24|148=>220|70=>263|37=>210|75=>216|127=>288|164=>302|80=>153|n=>n,fun|n=>n⟩
theorem Tryz.lays105:Go.Proofs.Lays.n105 Tryz.prog Tryz.lays105_ren:=
 {mixed:=by kernel_rfl,
  f99:=Tryz.func269.trans (congrArg some (by kernel_rfl)),
  f105:=Tryz.func239.trans (congrArg some (by kernel_rfl)),
  f165:=Tryz.func270.trans (congrArg some (by kernel_rfl)),
  f166:=Tryz.func271.trans (congrArg some (by kernel_rfl)),
  f169:=Tryz.func273.trans (congrArg some (by kernel_rfl)),
  f170:=Tryz.func272.trans (congrArg some (by kernel_rfl)),
  f206:=Tryz.func240.trans (congrArg some (by kernel_rfl)),
  f212:=Tryz.func268.trans (congrArg some (by kernel_rfl)),
  f240:=Tryz.func296.trans (congrArg some (by kernel_rfl)),
  f241:=Tryz.func297.trans (congrArg some (by kernel_rfl)),
  f263:=Tryz.func295.trans (congrArg some (by kernel_rfl)),
  f264:=Tryz.func245.trans (congrArg some (by kernel_rfl)),
  f276:=Tryz.func310.trans (congrArg some (by kernel_rfl)),
  f277:=Tryz.func311.trans (congrArg some (by kernel_rfl)),
  t0:=Tryz.underlying0,
  a0:=Tryz.isAgg0,
  z0:=Tryz.sizeOf0,
  v0:=Tryz.zeroValue0,
  t3:=Tryz.underlying3,
  a3:=Tryz.isAgg3,
  z3:=Tryz.sizeOf3,
  v3:=Tryz.zeroValue3,
  t4:=Tryz.underlying4,
  a4:=Tryz.isAgg4,
  z4:=Tryz.sizeOf4,
  v4:=Tryz.zeroValue4,
  t5:=Tryz.underlying5,
  a5:=Tryz.isAgg5,
  z5:=Tryz.sizeOf5,
  v5:=Tryz.zeroValue5,
  t9:=Tryz.underlying9,
  a9:=Tryz.isAgg9,
  z9:=Tryz.sizeOf9,
  v9:=Tryz.zeroValue9,
  t20:=Tryz.underlying20,
  a20:=Tryz.isAgg20,
  z20:=Tryz.sizeOf20,
  v20:=Tryz.zeroValue20,
  t37:=Tryz.underlying210,
  a37:=Tryz.isAgg210,
  z37:=Tryz.sizeOf210,
  v37:=Tryz.zeroValue210,
  t46:=Tryz.underlying179,
  a46:=Tryz.isAgg179,
  z46:=Tryz.sizeOf179,
  v46:=Tryz.zeroValue179,
  t51:=Tryz.underlying285,
  a51:=Tryz.isAgg285,
  z51:=Tryz.sizeOf285,
  v51:=Tryz.zeroValue285,
  t53:=Tryz.underlying24,
  a53:=Tryz.isAgg24,
  z53:=Tryz.sizeOf24,
  v53:=Tryz.zeroValue24,
  t70:=Tryz.underlying263,
  a70:=Tryz.isAgg263,
  z70:=Tryz.sizeOf263,
  v70:=Tryz.zeroValue263,
  t72:=Tryz.underlying265,
  a72:=Tryz.isAgg265,
  z72:=Tryz.sizeOf265,
  v72:=Tryz.zeroValue265,
  t75:=Tryz.underlying216,
  a75:=Tryz.isAgg216,
  z75:=Tryz.sizeOf216,
  v75:=Tryz.zeroValue216,
  t76:=Tryz.underlying267,
  a76:=Tryz.isAgg267,
  z76:=Tryz.sizeOf267,
  v76:=Tryz.zeroValue267,
  t109:=Tryz.underlying261,
  a109:=Tryz.isAgg261,
  z109:=Tryz.sizeOf261,
  v109:=Tryz.zeroValue261,
  t127:=Tryz.underlying288,
  a127:=Tryz.isAgg288,
  z127:=Tryz.sizeOf288,
  v127:=Tryz.zeroValue288,
  t146:=Tryz.underlying286,
  a146:=Tryz.isAgg286,
  z146:=Tryz.sizeOf286,
  v146:=Tryz.zeroValue286,
  t148:=Tryz.underlying220,
  a148:=Tryz.isAgg220,
  z148:=Tryz.sizeOf220,
  v148:=Tryz.zeroValue220,
  t164:=Tryz.underlying302,
  a164:=Tryz.isAgg302,
  z164:=Tryz.sizeOf302,
  v164:=Tryz.zeroValue302}
def Tryz.lays161_ren:Go.Shelf.Ren:=⟨fun|161=>203|231=>234|227=>235|233=>236|235=>237|228=>264|197=>265|151=>266|260=>289|152=>290|137=>304|119=>305|224=>276|225=>275|217=>274|266=>298|n=>n,fun|9=>9|4=>4|3=>3|5=>5|117=>235|116=>234|0=>0|124=>238|105=>258|21=>21|119=>295|46=>179|139=>298|138=>297|n=>n,fun|3=>7|4=>8|n=>n⟩
theorem Tryz.lays161:Go.Proofs.Lays.n161 Tryz.prog Tryz.lays161_ren:=
 {mixed:=by kernel_rfl,
  f119:=Tryz.func305.trans (congrArg some (by kernel_rfl)),
  f137:=Tryz.func304.trans (congrArg some (by kernel_rfl)),
  f151:=Tryz.func266.trans (congrArg some (by kernel_rfl)),
  f152:=Tryz.func290.trans (congrArg some (by kernel_rfl)),
  f161:=Tryz.func203.trans (congrArg some (by kernel_rfl)),
  f197:=Tryz.func265.trans (congrArg some (by kernel_rfl)),
  f217:=Tryz.func274.trans (congrArg some (by kernel_rfl)),
  f224:=Tryz.func276.trans (congrArg some (by kernel_rfl)),
  f225:=Tryz.func275.trans (congrArg some (by kernel_rfl)),
  f227:=Tryz.func235.trans (congrArg some (by kernel_rfl)),
  f228:=Tryz.func264.trans (congrArg some (by kernel_rfl)),
  f231:=Tryz.func234.trans (congrArg some (by kernel_rfl)),
  f233:=Tryz.func236.trans (congrArg some (by kernel_rfl)),
  f235:=Tryz.func237.trans (congrArg some (by kernel_rfl)),
  f260:=Tryz.func289.trans (congrArg some (by kernel_rfl)),
  f266:=Tryz.func298.trans (congrArg some (by kernel_rfl)),
  t0:=Tryz.underlying0,
  a0:=Tryz.isAgg0,
  z0:=Tryz.sizeOf0,
  v0:=Tryz.zeroValue0,
  t3:=Tryz.underlying3,
  a3:=Tryz.isAgg3,
  z3:=Tryz.sizeOf3,
  v3:=Tryz.zeroValue3,
  t4:=Tryz.underlying4,
  a4:=Tryz.isAgg4,
  z4:=Tryz.sizeOf4,
  v4:=Tryz.zeroValue4,
  t5:=Tryz.underlying5,
  a5:=Tryz.isAgg5,
  z5:=Tryz.sizeOf5,
  v5:=Tryz.zeroValue5,
  t9:=Tryz.underlying9,
  a9:=Tryz.isAgg9,
  z9:=Tryz.sizeOf9,
  v9:=Tryz.zeroValue9,
  t21:=Tryz.underlying21,
  a21:=Tryz.isAgg21,
  z21:=Tryz.sizeOf21,
  v21:=Tryz.zeroValue21,
  t46:=Tryz.underlying179,
  a46:=Tryz.isAgg179,
  z46:=Tryz.sizeOf179,
  v46:=Tryz.zeroValue179,
  t105:=Tryz.underlying258,
  a105:=Tryz.isAgg258,
  z105:=Tryz.sizeOf258,
  v105:=Tryz.zeroValue258,
  t116:=Tryz.underlying234,
  a116:=Tryz.isAgg234,
  z116:=Tryz.sizeOf234,
  t117:=Tryz.underlying235,
  a117:=Tryz.isAgg235,
  z117:=Tryz.sizeOf235,
  v117:=Tryz.zeroValue235,
  t119:=Tryz.underlying295,
  a119:=Tryz.isAgg295,
  z119:=Tryz.sizeOf295,
  t124:=Tryz.underlying238,
  a124:=Tryz.isAgg238,
  z124:=Tryz.sizeOf238,
  v124:=Tryz.zeroValue238,
  t138:=Tryz.underlying297,
  a138:=Tryz.isAgg297,
  z138:=Tryz.sizeOf297,
  v138:=Tryz.zeroValue297,
  t139:=Tryz.underlying298,
  a139:=Tryz.isAgg298,
  z139:=Tryz.sizeOf298,
  v139:=Tryz.zeroValue298,
  g3:=by kernel_rfl,
  g4:=by kernel_rfl}
theorem Tryz.extra105:Builder.Extra Tryz.prog Tryz.lays105_ren where
 sizeBuilder:=by kernel_rfl
 liesBuilder:=by kernel_rfl
 t5:=Tryz.underlying5
 a5:=Tryz.isAgg5
 z5:=Tryz.sizeOf5
 v5:=Tryz.zeroValue5
 infoByte:=by kernel_rfl
 cellsByte:=by kernel_rfl
 sizeByte:=by kernel_rfl
 neB5:=by decide
end Go.Proofs
namespace Go.Proofs.YtedhbbjlbgpafaaGreatDoor
open Go.RowKit Go.Shelf Go.Lib Go.Sort
theorem repeat_any(w:World)(s:List UInt8)(c:Nat)(hc:c≤1000)(hs:s.length≤1000):Calls Tryz.prog 239 #[.string ⟨s.toArray⟩,.int .i64 c] w (StrPost w (Lib.repeatL s c)):=by
 have hsz:(⟨s.toArray⟩:ByteArray).size=s.length:=by simp[ByteArray.size]
 have h:=Any.strings_Repeat Tryz.lays105 Tryz.extra105 ⟨s.toArray⟩ c w (by omega) (by rw[hsz];have:=Nat.mul_le_mul hs hc;omega)
 exact h
theorem trimLeft_any(w:World)(s:List UInt8)(c:UInt8)(hc:c.toNat<128):Calls Tryz.prog 203 #[.string ⟨s.toArray⟩,.string ⟨#[c]⟩] w fun e w'=>e=.returned (.string ⟨(Lib.trimLeftB s c).toArray⟩)∧w'=w:=Any.strings_TrimLeft_one Tryz.lays161 ⟨s.toArray⟩ c hc w
end Go.Proofs.YtedhbbjlbgpafaaGreatDoor
namespace Go.Proofs.YtedhbbjlbgpafaaGreatDoor
open Go.RowKit Go.Shelf
attribute [local go_sem] eqNil neqNil
def unitOf(i:Nat):Int:=10000000000000000000^(2^i)
theorem unit_pos(i:Nat):0<unitOf i:=Int.pow_pos (by decide)
theorem unit_zero:unitOf 0=10000000000000000000:=by unfold unitOf;rw[Nat.pow_zero,Int.pow_succ,Int.pow_zero,Int.one_mul]
theorem unit_succ(i:Nat):unitOf (i+1)=unitOf i*unitOf i:=by unfold unitOf;rw[Nat.pow_succ,Nat.mul_comm,Nat.two_mul,Int.pow_add]
theorem unit_mono{i j:Nat}(h:i≤j):unitOf i≤unitOf j:=by
 induction h with
 |refl=>exact Int.le_refl _
 |step _ ih=>
  rename_i j _
  rw[unit_succ]
  have h1:=unit_pos j
  have:=Int.mul_le_mul_of_nonneg_left (show 1≤unitOf j by omega) (Int.le_of_lt h1)
  omega
def adD:Nat→Nat→List UInt8
 |0,n=>Lib.repeatL [48] (19-(Lib.decDigits n).length)++Lib.decDigits n
 |j+1,n=>adD j (n/(unitOf j).toNat)++adD j (n%(unitOf j).toNat)
def bc(l:List UInt8):List Value:=l.map fun b=>Value.int .u8 (b.toNat:Int)
theorem bc_append(l m:List UInt8):bc (l++m)=bc l++bc m:=List.map_append
theorem strCells_bc(l:List UInt8):Lib.strCells ⟨l.toArray⟩=bc l:=by simp[Lib.strCells,bc]
structure Fr(B:Nat)(w w':World):Prop where
 below:Below B w w'
 keep: ∀k,k<w.heap.size→(∀c f,w.heap[k]?≠some (.cells c 5 f))→w'.heap[k]?=w.heap[k]?
theorem Fr.trans{B:Nat}{a b c:World}(h:Fr B a b)(k:Fr B b c):Fr B a c:=
 ⟨h.below.trans k.below,fun i hi hn=>by
  have e:=h.keep i hi hn
  rw[k.keep i (Nat.lt_of_lt_of_le hi h.below.size) (by rw[e];exact hn),e]⟩
theorem Fr.of_below{B:Nat}{w w':World}(h:Below w.heap.size w w')(hB:B≤w.heap.size):Fr B w w':=⟨h.mono hB,fun k hk _=>h.block k hk⟩
theorem Fr.of_grown{B:Nat}{w w':World}{v:Value}{n:Nat}{xs:List Value}(h:w.ownsRow B 5 1 v n xs)(hg:w.grownBy w' v.ownBlock)(hB:B≤w.heap.size):Fr B w w':=
 ⟨Below.grown (Below.refl B w) hg hB (fun k hk=>(h.lt k hk).1),fun k hk hn=>by
  refine hg.block k hk (fun e=>?_)
  rcases h.2 with⟨rfl,_⟩|⟨g,cap,cur,rfl,_,hh,_⟩
  ·cases e
  ·injection e with e
   subst e
   exact hn _ _ hh⟩
theorem Ns.fr{B:Nat}{w w':World}{b off cap:Nat}{zs:List Int}{n:Int}(h:Ns w b off cap zs n)(hf:Fr B w w'):Ns w' b off cap zs n:=by
 obtain⟨c,f,hb⟩:=h.ty
 have e:=hf.keep b h.lt (by rw[hb];intro c' f' hc;injection hc with hc;injection hc with _ hc _;exact absurd hc (by decide))
 refine{h with row:=fun i hi=>?_,lt:=Nat.lt_of_lt_of_le h.lt hf.below.size,ty:=⟨c,f,by rw[e];exact hb⟩}
 have:=h.row i hi
 rwa [←World.cell?_of_block (w':=w') (a:=⟨b,off+i,none⟩) e]at this
theorem Nt.fr{B:Nat}{w w':World}{v:Value}{n:Int}(h:Nt w v n)(hf:Fr B w w'):Nt w' v n:=by
 rcases h with h|⟨b,off,cap,zs,e,h⟩
 ·exact .inl h
 ·exact .inr ⟨b,off,cap,zs,e,h.fr hf⟩
theorem owns_below{B:Nat}{w w':World}{v:Value}{n:Nat}{xs:List Value}(h:w.ownsRow B 5 1 v n xs)(hb:Below w.heap.size w w'):w'.ownsRow B 5 1 v n xs:=by
 refine⟨h.1,?_⟩
 rcases h.2 with hn|⟨g,cap,cur,rfl,hg,hh,r⟩
 ·exact .inl hn
 ·exact .inr ⟨g,cap,cur,rfl,hg,by rw[hb.block g (Array.getElem?_eq_some_iff.1 hh).1];exact hh,r⟩
def Un(w:World)(v:Value)(j:Nat):Prop:=
 (v=.slice none 0 0∧j=0)∨ ∃g cap c f,v=.slice (some ⟨g,0,none⟩) j cap∧j≤cap∧w.heap[g]?=some (.cells c 49 f)∧ ∀i,i<j→ ∃u,c[i]?=some u∧Nt w u (unitOf i)
theorem Un.fr{B:Nat}{w w':World}{v:Value}{j:Nat}(h:Un w v j)(hf:Fr B w w'):Un w' v j:=by
 rcases h with h|⟨g,cap,c,f,rfl,hc,hg,hu⟩
 ·exact .inl h
 ·refine .inr ⟨g,cap,c,f,rfl,hc,?_,fun i hi=>?_⟩
  ·rw[hf.keep g (Array.getElem?_eq_some_iff.1 hg).1 (by rw[hg];intro c' f' hc;injection hc with hc;injection hc with _ hc _;exact absurd hc (by decide))]
   exact hg
  ·obtain⟨u,h1,h2⟩:=hu i hi
   exact⟨u,h1,h2.fr hf⟩
theorem rep_length(c:Nat):(Lib.repeatL [(48:UInt8)] c).length=c:=by rw[Lib.repeatL_length];simp
def AdPost(w:World)(B k:Nat)(xs:List Value)(e:Ending)(w':World):Prop:= ∃vo,e=.returned vo∧w'.ownsRow B 5 1 vo k xs∧Fr B w w'
theorem infoB:(Tryz.prog.info? 5).map (fun i=>(i.zero,i.size,i.bytes))=some (some (.int .u8 0),1,1):=by kernel_rfl
theorem nDigits_le(k:Nat): ∀n:Nat,n<10^(k+1)→Lib.nDigits n≤k+1:=by
 induction k with
 |zero=>intro n h;rw[Lib.nDigits_small (by simpa using h)];exact Nat.le_refl _
 |succ k ih=>
  intro n h
  by_cases h10:n<10
  ·rw[Lib.nDigits_small h10];omega
  ·rw[Lib.nDigits_big h10]
   have:=ih (n/10) (by rw[Nat.div_lt_iff_lt_mul (by omega)];rw[Nat.pow_succ]at h;exact h)
   omega
theorem ad_zero(w:World)(B:Nat)(hB:B≤w.heap.size)(hP: ∀w',Below B w w'→Pow10 w')(vn:Value)(n:Nat)(hn:Nt w vn n)(hlt:(n:Int)<unitOf 0)(vo:Value)(k:Nat)(xs:List Value)
 (ho:w.ownsRow B 5 1 vo k xs) (hk:k+19≤100000) (vu:Value) (hu:Un w vu 0):
 Calls Tryz.prog 204 #[vn,vo,vu] w (AdPost w B (k+19) (xs++bc (adD 0 n))):=by
 rw[unit_zero]at hlt
 have hd:(Lib.decDigits n).length≤19:=by
  rw[Lib.decDigits_length]
  exact nDigits_le 18 n (by omega)
 obtain⟨bu,cu,rfl⟩: ∃bu cu,vu=.slice bu 0 cu:=by
  rcases hu with⟨rfl,_⟩|⟨g,cap,c,f,rfl,_⟩<;>exact⟨_,_,rfl⟩
 obtain⟨ob,ol,oc,rfl⟩: ∃a b c,vo=.slice a b c:=by
  rcases ho.2 with⟨rfl,_⟩|⟨g,cap,cur,rfl,_⟩<;>exact⟨_,_,_,rfl⟩
 have HW:=Lib.hid (word0 hn (show(n:Int)<18446744073709551616 by omega) w (Below.refl _ _))
 have HF:=Lib.hid (fmtUint_any w n (by omega) (hP w (Below.refl _ _)))
 have HO:=Lib.hid ho
 clear hn hu ho
 go_enter Tryz.func204,Tryz.ntmps204
 go_wp2_with fail
 refine HW.out.mono ?_
 rintro e w ⟨rfl,rfl⟩
 go_wp2_with fail
 refine HF.out.mono ?_
 rintro e w1 ⟨rfl,hb1⟩
 have HB1:=Lib.hid hb1
 clear hb1
 generalize hD:Lib.decDigits n=D at hd⊢
 have hsz:(⟨D.toArray⟩:ByteArray).size=D.length:=by simp[ByteArray.size]
 have hwr:IntKind.i64.wrap (19-(D.length:Int))=((19-D.length:Nat):Int):=by rw[IntWalk.i64_in _ (by omega)];omega
 obtain⟨i0,hi,hz0,hz1,hz2⟩:=info_parts infoB
 have hii:=Lib.hid hi
 go_wp2_with fail
 refine(repeat_any w1 [48] (19-D.length) (by omega) (by simp)).mono ?_
 rintro e w2 ⟨rfl,hb2⟩
 have HB2:Hid (Below w.heap.size w w2):=Lib.hid (HB1.out.trans (hb2.mono HB1.out.size))
 have HO2:=Lib.hid (owns_below HO.out HB2.out)
 have HZ2:=Lib.hid (HB2.out.size)
 clear hb2
 generalize hR:Lib.repeatL [48] (19-D.length)=R
 have hRl:R.length=19-D.length:=by rw[←hR,rep_length]
 have hszR:(⟨R.toArray⟩:ByteArray).size=R.length:=by simp[ByteArray.size]
 have HR:=Lib.hid (And.intro hR (And.intro hRl hszR))
 have HDD:=Lib.hid (And.intro hD (And.intro hsz hwr))
 clear hR hRl hszR hD hsz hwr hi
 go_wp2_with (at_builtin;refine Hid.out ?_)
 refine Lib.hid ?_
 have HRS:R.length≤19:=by have:=HR.out.2.1;omega
 have hszR:=HR.out.2.2
 refine Lib.wpList_append_own_string w2 rfl (.tmp 17) (.tmp 21) 210 9 rfl B 5 i0 Tryz.underlying210 Tryz.underlying9 hii.out hz0 hz1 hz2 _ k xs rfl HO2.out ⟨R.toArray⟩ rfl (by rw[hszR];unfold maxLen;omega) (by rw[hszR];omega) (by have:=HZ2.out;omega) ?_
 intro v1 w3 hown3 hgr3 hnil3
 have HF3:Hid (Fr B w w3):=Lib.hid ((Fr.of_below HB2.out hB).trans (Fr.of_grown HO2.out hgr3 (by have:=HZ2.out;omega)))
 have HZ3:Hid (B≤w3.heap.size):=Lib.hid (by have:=HF3.out.below.size;omega)
 rw[hszR,strCells_bc]at hown3
 have HO3:=Lib.hid hown3
 obtain⟨ob1,ol1,oc1,rfl⟩: ∃a b c,v1=.slice a b c:=by
  rcases hown3.2 with⟨rfl,_⟩|⟨g,cap,cur,rfl,_⟩<;>exact⟨_,_,_,rfl⟩
 clear hown3 hgr3 hnil3 hszR
 go_wp2_with (at_builtin;refine Hid.out ?_)
 refine Lib.hid ?_
 have hszD:=HDD.out.2.1
 refine Lib.wpList_append_own_string w3 rfl (.tmp 23) (.tmp 24) 210 9 rfl B 5 i0 Tryz.underlying210 Tryz.underlying9 hii.out hz0 hz1 hz2 _ (k+R.length) (xs++bc R) rfl HO3.out ⟨D.toArray⟩ rfl (by rw[hszD];unfold maxLen;omega) (by rw[hszD];omega) HZ3.out ?_
 intro v2 w4 hown4 hgr4 hnil4
 have HF4:Hid (Fr B w w4):=Lib.hid (HF3.out.trans (Fr.of_grown HO3.out hgr4 HZ3.out))
 rw[hszD,strCells_bc]at hown4
 have HO4:=Lib.hid hown4
 obtain⟨ob2,ol2,oc2,rfl⟩: ∃a b c,v2=.slice a b c:=by
  rcases hown4.2 with⟨rfl,_⟩|⟨g,cap,cur,rfl,_⟩<;>exact⟨_,_,_,rfl⟩
 clear hown4 hgr4 hnil4 hszD
 go_wp2_with fail
 go_ret
 refine⟨_,rfl,?_,HF4.out⟩
 have e1:bc (adD 0 n)=bc R++bc D:=by unfold adD;rw[HDD.out.1,HR.out.1,bc_append]
 have e2:k+19=k+R.length+D.length:=by have:=HR.out.2.1;omega
 rw[e1,e2,←List.append_assoc]
 exact HO4.out
theorem unit_le_pw(i:Nat):unitOf i≤pw^(2^i):=by
 induction i with
 |zero=>rw[unit_zero,Nat.pow_zero,Int.pow_succ,Int.pow_zero,Int.one_mul];decide
 |succ i ih=>
  rw[unit_succ,Nat.pow_succ,Nat.mul_comm,Nat.two_mul,Int.pow_add]
  have h0:=unit_pos i
  exact Int.mul_le_mul ih ih (by omega) (by omega)
theorem two_le{a b:Nat}(h:a≤b):(2:Int)^a≤2^b:=by
 obtain⟨d,rfl⟩:=Nat.exists_eq_add_of_le h
 rw[Int.pow_add]
 have:=Int.mul_le_mul_of_nonneg_left (show(1:Int)≤2^d from p2pos d) (Int.le_of_lt (p2pos a))
 omega
theorem unit_big{i:Nat}(h:i≤8):unitOf i<big:=by
 have h1:=unit_mono h
 have h2:=unit_le_pw 8
 have h3:pw^(2^8)=2^(64*2^8):=pw_two _
 have h4:big=2^64000:=by unfold big;rw[pw_two]
 have h5:(2:Int)^(64*2^8)*2≤2^64000:=by rw[←Int.pow_succ];exact two_le (by omega)
 have h6:=p2pos (64*2^8)
 omega
theorem ad_any(j:Nat): ∀(w:World) (B:Nat) (hB:B≤w.heap.size) (hP: ∀w',Below B w w'→Pow10 w') (vn:Value) (n:Nat) (hn:Nt w vn n) (hlt:(n:Int)<unitOf j) (vo:Value) (k:Nat) (xs:List Value)
 (ho:w.ownsRow B 5 1 vo k xs) (hk:k+19*2^j≤100000) (vu:Value) (hu:Un w vu j) (hj:j≤8),
 Calls Tryz.prog 204 #[vn,vo,vu] w (AdPost w B (k+19*2^j) (xs++bc (adD j n))):=by
 induction j with
 |zero=>intro w B hB hP vn n hn hlt vo k xs ho hk vu hu hj;exact ad_zero w B hB hP vn n hn hlt vo k xs ho (by simpa using hk) vu hu
 |succ j ih=>
  intro w B hB hP vn n hn hlt vo k xs ho hk vu hu hj
  obtain⟨g,cap,c,f,rfl,hcap,hg,hcu⟩: ∃g cap c f,vu=.slice (some ⟨g,0,none⟩) (j+1) cap∧j+1≤cap∧w.heap[g]?=some (.cells c 49 f)∧ ∀i,i<j+1→ ∃u,c[i]?=some u∧Nt w u (unitOf i):=by
   rcases hu with⟨_,h⟩|h
   ·omega
   ·exact h
  have hu':Un w (.slice (some ⟨g,0,none⟩) j cap) j:=.inr ⟨g,cap,c,f,rfl,by omega,hg,fun i hi=>hcu i (by omega)⟩
  obtain⟨u,hc,hU⟩:=hcu j (by omega)
  have hup:=unit_pos j
  obtain⟨ub,uo,uc,uz,rfl,_⟩:=hU.pos (by omega)
  obtain⟨nb,nl,nc,rfl⟩:=hn.shape
  obtain⟨ob,ol,oc,rfl⟩: ∃a b c,vo=.slice a b c:=by
   rcases ho.2 with⟨rfl,_⟩|⟨g,cap,cur,rfl,_⟩<;>exact⟨_,_,_,rfl⟩
  have hcell:w.cell? ⟨g,j,none⟩=some (.slice (some ⟨ub,uo,none⟩) uz.length uc):=by
   unfold World.cell?
   simp[hg,hc]
  have hb1:=unit_big (show j≤8 by omega)
  have hb2:=unit_big (show j+1≤8 by omega)
  have HDV:=Lib.hid (divide_any w _ _ n (unitOf j) hn hU (by omega) hb1 (by omega) hup)
  have HIH:=Lib.hid ih
  have HPP:=Lib.hid hP
  have HO:=Lib.hid ho
  have HU:=Lib.hid hu'
  have HB:=Lib.hid hB
  have HL:=Lib.hid hlt
  have HK:=Lib.hid hk
  clear ih hP ho hu' hu hB hlt hk hn hU hcu hg hc hb1 hb2 hup
  have hwj:IntKind.i64.wrap ((j:Int)+1-1)=(j:Int):=by rw[IntWalk.i64_in _ (by omega)];omega
  have hj1:((j+1:Nat):Int)=(j:Int)+1:=by omega
  have hcl:j≤cap:=by omega
  go_enter Tryz.func204,Tryz.ntmps204
  go_wp2_with fail
  refine HDV.out.mono ?_
  rintro e w1 ⟨v1,v2,rfl,h1,h2,hb1⟩
  have HB1:=Lib.hid hb1
  have HZ1:Hid (B≤w1.heap.size):=Lib.hid (by have:=HB.out;have:=hb1.size;omega)
  have HF1:Hid (Fr B w w1):=Lib.hid (Fr.of_below hb1 HB.out)
  have hup:=unit_pos j
  have hq0:(0:Int)≤(n:Int)/unitOf j:=Int.ediv_nonneg (by omega) (by omega)
  have hr0:(0:Int)≤(n:Int)%unitOf j:=Int.emod_nonneg _ (by omega)
  have hr1:(n:Int)%unitOf j<unitOf j:=Int.emod_lt_of_pos _ hup
  have hq1:(n:Int)/unitOf j<unitOf j:=by
   rw[Int.ediv_lt_iff_lt_mul hup,←unit_succ];exact HL.out
  obtain⟨q,hq⟩: ∃q:Nat,(n:Int)/unitOf j=q:=⟨((n:Int)/unitOf j).toNat,by omega⟩
  obtain⟨r,hr⟩: ∃r:Nat,(n:Int)%unitOf j=r:=⟨((n:Int)%unitOf j).toNat,by omega⟩
  rw[hq]at h1 hq1
  rw[hr]at h2 hr1
  have HQ:Hid (n/(unitOf j).toNat=q∧n%(unitOf j).toNat=r):=Lib.hid (by
   have e:((unitOf j).toNat:Int)=unitOf j:=by omega
   constructor
   ·have h:=Int.natCast_ediv n (unitOf j).toNat;rw[e,hq]at h;omega
   ·have h:=Int.natCast_emod n (unitOf j).toNat;rw[e,hr]at h;omega)
  have HC1:=Lib.hid (HIH.out w1 B HZ1.out (fun w' hb=>HPP.out w' (HF1.out.below.trans hb)) v1 q h1 hq1 (.slice ob ol oc) k xs (owns_below HO.out hb1) (by have:=HK.out;rw[Nat.pow_succ]at this;omega) _ (HU.out.fr HF1.out) (by omega))
  have H2:=Lib.hid (And.intro h2 hr1)
  obtain⟨b1,l1,c1,rfl⟩:=h1.shape
  obtain⟨b2,l2,c2,rfl⟩:=h2.shape
  clear hb1 h1 h2 hq0 hr0 hr1 hq1 hq hr hup hcell
  go_wp2_with fail
  refine HC1.out.mono ?_
  rintro e w2 ⟨vo1,rfl,ho1,hf1⟩
  have HF2:Hid (Fr B w w2):=Lib.hid (HF1.out.trans hf1)
  have HZ2:Hid (B≤w2.heap.size):=Lib.hid (by have:=HF2.out.below.size;have:=HB.out;omega)
  have HC2:=Lib.hid (HIH.out w2 B HZ2.out (fun w' hb=>HPP.out w' (HF2.out.below.trans hb)) _ r (H2.out.1.fr hf1) H2.out.2 vo1 _ _ ho1 (by have:=HK.out;rw[Nat.pow_succ]at this;omega) _ (HU.out.fr HF2.out) (by omega))
  obtain⟨ob1,ol1,oc1,rfl⟩: ∃a b c,vo1=.slice a b c:=by
   rcases ho1.2 with⟨rfl,_⟩|⟨g,cap,cur,rfl,_⟩<;>exact⟨_,_,_,rfl⟩
  clear ho1 hf1
  go_wp2_with fail
  refine HC2.out.mono ?_
  rintro e w3 ⟨vo2,rfl,ho2,hf2⟩
  have HO3:=Lib.hid (And.intro ho2 (HF2.out.trans hf2))
  obtain⟨ob2,ol2,oc2,rfl⟩: ∃a b c,vo2=.slice a b c:=by
   rcases ho2.2 with⟨rfl,_⟩|⟨g,cap,cur,rfl,_⟩<;>exact⟨_,_,_,rfl⟩
  clear ho2 hf2
  go_wp2_with fail
  go_ret
  refine⟨_,rfl,?_,HO3.out.2⟩
  have e1:bc (adD (j+1) n)=bc (adD j q)++bc (adD j r):=by
   rw[←bc_append,←HQ.out.1,←HQ.out.2];rfl
  have e2:k+19*2^(j+1)=k+19*2^j+19*2^j:=by rw[Nat.pow_succ];omega
  rw[e1,e2,←List.append_assoc]
  exact HO3.out.1
end Go.Proofs.YtedhbbjlbgpafaaGreatDoor
namespace Go.Proofs.YtedhbbjlbgpafaaGreatDoor
open Go.RowKit Go.Shelf
def padD:Nat→Nat→List UInt8
 |0,_=>[]
 |k+1,n=>Lib.dg n k::padD k n
theorem padD_range(k n:Nat):padD k n=(List.range k).map fun t=>Lib.dg n (k-1-t):=by
 induction k with
 |zero=>rfl
 |succ k ih=>
  rw[List.range_succ_eq_map,List.map_cons,List.map_map,padD,ih]
  congr 1
  apply List.map_congr_left
  intro t ht
  simp only[Function.comp]
  congr 1
  have:=List.mem_range.1 ht
  omega
theorem decDigits_pad(n:Nat):Lib.decDigits n=padD (Lib.nDigits n) n:=by rw[padD_range,Lib.decDigits_eq]
theorem dg_zero{n k:Nat}(h:n<10^k):Lib.dg n k=48:=by unfold Lib.dg;rw[Nat.div_eq_of_lt h];rfl
theorem dg_low(n b t:Nat)(h:t<b):Lib.dg (n%10^b) t=Lib.dg n t:=by
 unfold Lib.dg
 congr 2
 obtain⟨d,rfl⟩: ∃d,b=t+(d+1):=⟨b-t-1,by omega⟩
 rw[Nat.pow_add,Nat.mod_mul_right_div_self,Nat.pow_succ,Nat.mul_comm (10^d) 10,Nat.mod_mul_right_mod]
theorem dg_high(n b t:Nat):Lib.dg n (t+b)=Lib.dg (n/10^b) t:=by
 unfold Lib.dg
 rw[Nat.pow_add,Nat.mul_comm,Nat.div_div_eq_div_mul]
theorem padD_low(b:Nat)(n:Nat): ∀k,k≤b→padD k (n%10^b)=padD k n:=by
 intro k
 induction k with
 |zero=>intro _;rfl
 |succ k ih=>intro h;rw[padD,padD,ih (by omega),dg_low n b k (by omega)]
theorem padD_split(a b n:Nat):padD (a+b) n=padD a (n/10^b)++padD b (n%10^b):=by
 rw[padD_low b n b (Nat.le_refl _)]
 induction a with
 |zero=>rw[Nat.zero_add];rfl
 |succ a ih=>rw[show a+1+b=a+b+1 by omega,padD,padD,ih,dg_high];rfl
theorem padD_zeros(b n:Nat)(h:n<10^b): ∀c,padD (c+b) n=List.replicate c 48++padD b n:=by
 intro c
 induction c with
 |zero=>rw[Nat.zero_add];rfl
 |succ c ih=>
  have h2:10^b≤10^(c+b):=Nat.pow_le_pow_right (by omega) (by omega)
  rw[show c+1+b=c+b+1 by omega,padD,ih,dg_zero (by omega)];rfl
theorem repeatL_rep(c:Nat):Lib.repeatL [(48:UInt8)] c=List.replicate c 48:=by
 induction c with
 |zero=>rfl
 |succ c ih=>rw[Lib.repeatL,ih];rfl
theorem unit_nat(j:Nat):(unitOf j).toNat=10^(19*2^j):=by
 have h:unitOf j=((10^(19*2^j):Nat):Int):=by
  have e:(10000000000000000000:Int)=((10^19:Nat):Int):=rfl
  unfold unitOf
  rw[e,Nat.pow_mul]
  exact(Int.natCast_pow (10^19) (2^j)).symm
 rw[h,Int.toNat_natCast]
theorem adD_pad(j:Nat): ∀n,n<10^(19*2^j)→adD j n=padD (19*2^j) n:=by
 induction j with
 |zero=>
  intro n h
  rw[Nat.pow_zero,Nat.mul_one]at h⊢
  have h1:=nDigits_le 18 n h
  have h2:=padD_zeros (Lib.nDigits n) n (Lib.lt_pow_nDigits n) (19-Lib.nDigits n)
  rw[show 19-Lib.nDigits n+Lib.nDigits n=19 by omega]at h2
  rw[h2,adD,repeatL_rep,Lib.decDigits_length,decDigits_pad]
 |succ j ih=>
  intro n h
  have e:19*2^(j+1)=19*2^j+19*2^j:=by rw[Nat.pow_succ];omega
  rw[e]at h⊢
  rw[Nat.pow_add]at h
  have hp:0<10^(19*2^j):=Nat.pow_pos (by omega)
  rw[padD_split,adD,unit_nat,ih _ (by rw[Nat.div_lt_iff_lt_mul hp];exact h),ih _ (Nat.mod_lt _ hp)]
theorem dg_first{n k:Nat}(h1:10^k≤n)(h2:n<10^(k+1)):Lib.dg n k≠48:=by
 have hp:0<10^k:=Nat.pow_pos (by omega)
 have a1:1≤n/10^k:=(Nat.le_div_iff_mul_le hp).2 (by omega)
 have a2:n/10^k<10:=by rw[Nat.div_lt_iff_lt_mul hp];rw[Nat.pow_succ]at h2;omega
 unfold Lib.dg
 rw[Nat.mod_eq_of_lt a2]
 intro hc
 have:=congrArg UInt8.toNat hc
 simp at this
 omega
theorem pow_nDigits_le{n:Nat}(h:0<n):10^(Lib.nDigits n-1)≤n:=by
 apply Classical.byContradiction
 intro hc
 have hp:=Lib.nDigits_pos n
 by_cases h1:Lib.nDigits n=1
 ·rw[h1]at hc;simp at hc;omega
 ·have:=nDigits_le (Lib.nDigits n-1-1) n (by rw[show Lib.nDigits n-1-1+1=Lib.nDigits n-1 by omega];omega)
  omega
theorem trim_ad{j n:Nat}(h0:0<n)(h:n<10^(19*2^j)):Lib.trimLeftB (adD j n) 48=Lib.decDigits n:=by
 rw[adD_pad j n h]
 have hl:Lib.nDigits n≤19*2^j:=by
  have hp:0<2^j:=Nat.pow_pos (by omega)
  have:=nDigits_le (19*2^j-1) n (by rw[show 19*2^j-1+1=19*2^j by omega];exact h)
  omega
 have h2:=padD_zeros (Lib.nDigits n) n (Lib.lt_pow_nDigits n) (19*2^j-Lib.nDigits n)
 rw[show 19*2^j-Lib.nDigits n+Lib.nDigits n=19*2^j by omega]at h2
 rw[h2,←decDigits_pad]
 have hd:(Lib.decDigits n).dropWhile (·==(48:UInt8))=Lib.decDigits n:=by
  rw[decDigits_pad]
  have hp:=Lib.nDigits_pos n
  have hf:=dg_first (pow_nDigits_le h0) (by rw[show Lib.nDigits n-1+1=Lib.nDigits n by omega];exact Lib.lt_pow_nDigits n)
  generalize Lib.nDigits n=k at*
  obtain⟨k,rfl⟩: ∃m,k=m+1:=⟨k-1,by omega⟩
  rw[Nat.add_sub_cancel]at hf
  rw[padD,List.dropWhile_cons_of_neg]
  simpa using hf
 unfold Lib.trimLeftB
 generalize 19*2^j-Lib.nDigits n=c
 induction c with
 |zero=>simpa using hd
 |succ c ih=>rw[List.replicate_succ,List.cons_append,List.dropWhile_cons_of_pos (by rfl)];exact ih
end Go.Proofs.YtedhbbjlbgpafaaGreatDoor
namespace Go.Proofs.YtedhbbjlbgpafaaGreatDoor
open Go.RowKit Go.Shelf
attribute [local go_sem] eqNil neqNil
def sliceLen:Value→Nat
 |.slice _ n _=>n
 |_=>0
theorem infoN:(Tryz.prog.info? 49).map (fun i=>(i.zero,i.size,i.bytes))=some (some (.slice none 0 0),1,24):=by kernel_rfl
theorem own_slice{w:World}{B:Nat}{e:TypeId}{v:Value}{n:Nat}{xs:List Value}(h:w.ownsRow B e 1 v n xs): ∃b c,v=.slice b n c:=by
 rcases h.2 with⟨rfl,rfl⟩|⟨_,_,_,rfl,_⟩<;>exact⟨_,_,rfl⟩
theorem Nt.grownN{w w':World}{v vo:Value}{n:Int}{B k:Nat}{xs:List Value}(h:Nt w v n)(ho:w.ownsRow B 49 1 vo k xs)(hg:w.grownBy w' vo.ownBlock):Nt w' v n:=by
 rcases h with h|⟨b,off,cap,zs,e,h⟩
 ·exact .inl h
 ·obtain⟨c,f,hb⟩:=h.ty
  have eb:w'.heap[b]?=w.heap[b]?:=by
   refine hg.block b h.lt (fun e=>?_)
   rcases ho.2 with⟨rfl,_⟩|⟨g,cap,cur,rfl,_,hh,_⟩
   ·cases e
   ·injection e with e
    subst e
    rw[hb]at hh
    injection hh with hh
    injection hh with _ hh _
    exact absurd hh (by decide)
  refine .inr ⟨b,off,cap,zs,e,{h with row:=fun i hi=>?_,lt:=Nat.lt_of_lt_of_le h.lt hg.size,ty:=⟨c,f,by rw[eb];exact hb⟩}⟩
  have:=h.row i hi
  rwa [←World.cell?_of_block (w':=w') (a:=⟨b,off+i,none⟩) eb]at this
theorem own_belowN{B:Nat}{w w':World}{v:Value}{n:Nat}{xs:List Value}(h:w.ownsRow B 49 1 v n xs)(hb:Below w.heap.size w w'):w'.ownsRow B 49 1 v n xs:=by
 refine⟨h.1,?_⟩
 rcases h.2 with hn|⟨g,cap,cur,rfl,hg,hh,r⟩
 ·exact .inl hn
 ·exact .inr ⟨g,cap,cur,rfl,hg,by rw[hb.block g (Array.getElem?_eq_some_iff.1 hh).1];exact hh,r⟩
def Us(w:World)(us:List Value):Prop:= ∀t,t<us.length→ ∃u,us[t]?=some u∧Nt w u (unitOf t)
theorem Us.un{w:World}{B:Nat}{v:Value}{us:List Value}(ho:w.ownsRow B 49 1 v us.length us)(h:Us w us):Un w v us.length:=by
 rcases ho.2 with⟨rfl,h0⟩|⟨g,cap,cur,rfl,_,hg,hc,_,_,ht⟩
 ·exact .inl ⟨rfl,h0⟩
 ·refine .inr ⟨g,cap,cur,_,rfl,hc,hg,fun i hi=>?_⟩
  obtain⟨u,h1,h2⟩:=h i hi
  refine⟨u,?_,h2⟩
  rw[←ht,List.getElem?_take,if_pos (by omega)]at h1
  simpa using h1
theorem unit_39{i:Nat}(h:i≤5):unitOf i<pw^39:=by
 have h1:=unit_mono h
 have h2:=unit_le_pw 5
 have h3:pw^(2^5)<pw^39:=by
  rw[pw_two,pw_two]
  have h5:(2:Int)^(64*2^5)*2≤2^(64*39):=by rw[←Int.pow_succ];exact two_le (by omega)
  have h6:=p2pos (64*2^5)
  omega
 omega
theorem mul_unit(w:World)(v:Value)(i:Nat)(hi:i≤5)(h:Nt w v (unitOf i)):Calls Tryz.prog 202 #[v,v] w (NewNt w (unitOf (i+1))):=by
 have hp:=unit_pos i
 obtain⟨b,off,cap,zs,rfl,hN⟩:=h.pos (by omega)
 have hb:=unit_big (show i≤8 by omega)
 rw[unit_succ]
 exact mul_short w b off cap zs _ b off cap zs _ hN hN hb hb (.inl (by
  have:=len_of_lt hN.wd hN.can hN.val (unit_39 hi)
  omega))
theorem digits_any(w:World)(hP:Pow10 w)(vn:Value)(n:Nat)(hn:Nt w vn n)(h0:0<n)(hlt:(n:Int)<unitOf 6):
 Calls Tryz.prog 130 #[vn] w (StrPost w (Lib.decDigits n)):=by
 have hP': ∀w',Below w.heap.size w w'→Pow10 w':=pow10_below hP
 have HP:=Lib.hid hP'
 have HN:=Lib.hid hn
 have HL:=Lib.hid hlt
 have H0:=Lib.hid h0
 obtain⟨nb,nl,nc,rfl⟩:=hn.shape
 have HU0:=Lib.hid (fromWord_any w 10000000000000000000 (by decide) (by decide))
 obtain⟨i0,hi,hz0,hz1,hz2⟩:=info_parts infoN
 have hii:=Lib.hid hi
 clear hP hP' hn hlt h0 hi
 go_enter Tryz.func130,Tryz.ntmps130
 go_wp2_with fail
 refine HU0.out.mono ?_
 rintro e w0 ⟨v0,rfl,hv0,hb0⟩
 rw[←unit_zero]at hv0
 have HV0:=Lib.hid (And.intro hv0 hb0)
 obtain⟨ub,ul,uc,rfl⟩:=hv0.shape
 clear hv0 hb0
 go_wp2_with fail
 go_loopw [3,4] (fun v3 v4 wr=> ∃(us:List Value),us.length≤6∧Hid (wr.ownsRow w.heap.size 49 1 v3 us.length us∧Us wr us∧Nt wr v4 (unitOf us.length)∧Below w.heap.size w wr∧(0<us.length→unitOf (us.length-1)≤n)))
  (fun v3 _ _=>10-sliceLen v3)
 case atStart=>exact⟨[],by simp,Lib.hid ⟨World.ownsRow_nil _ _ _ _,fun t ht=>by simp at ht,HV0.out.1,HV0.out.2,by simp⟩⟩
 case round=>
  obtain⟨us,hl,hr⟩:=hrel
  obtain⟨ho,hus,hv4,hB,hle⟩:=hr.out
  obtain⟨b4,l4,c4,rfl⟩:=hv4.shape
  obtain⟨b3,c3,rfl⟩:=own_slice ho
  have HC:=Lib.hid (natCmp_any wr _ _ _ _ hv4 (HN.out.below hB) (unit_big (by omega)) (by have:=unit_big (show 6≤8 by omega);have:=HL.out;omega))
  have HR:=hr
  by_cases hc:unitOf us.length≤n
  ·have hcI:cmpI (unitOf us.length) n≤0:=by unfold cmpI;split<;>(try split)<;>omega
   have hi5:us.length≤5:=by
    apply Classical.byContradiction
    intro h6
    have:=unit_mono (show 6≤us.length by omega)
    have:=HL.out
    omega
   have HLE:=Lib.hid hc
   generalize cmpI (unitOf us.length) n=cv at HC hcI
   clear hr ho hus hv4 hB hle hc
   go_wp2_with fail
   refine HC.out.mono ?_
   rintro e w1 ⟨rfl,hd⟩
   have HB1:Hid (Below wr.heap.size wr w1):=Lib.hid (hd.below _)
   have HO1:=Lib.hid (own_belowN HR.out.1 HB1.out)
   have HZ1:Hid (w.heap.size≤w1.heap.size):=Lib.hid (by have:=HR.out.2.2.2.1.size;have:=HB1.out.size;omega)
   clear hd
   go_wp2_with (at_builtin;refine Hid.out ?_)
   refine Lib.hid ?_
   refine wpList_append_own _ rfl (.tmp 13) (.tmp 15) 206 rfl w.heap.size 49 i0 (.slice none 0 0) 1 24 Tryz.underlying206 hii.out hz0 hz1 hz2 rfl (by decide) _ us.length us rfl (HO1.out.alloc _) ⟨w1.heap.size,0,none⟩ 1 1 [.slice b4 l4 c4] rfl rfl (by intro t u ht;match t,ht with|0,ht=>simp at ht;subst ht;simp[Addr.add,go_sem]) (by intro u hu;simp at hu;subst hu;rfl) (by unfold maxLen;omega) (by omega) (by have:=HZ1.out;simp;omega) ?_
   intro v2 w2 hown2 hgrow2 hnil
   have hown3:w2.ownsRow w.heap.size 49 1 v2 (us++[Value.slice b4 l4 c4]).length (us++[Value.slice b4 l4 c4]):=by simpa using hown2
   have HFN:Hid (∀v n,Nt wr v n→Nt w2 v n):=Lib.hid (fun v n h=>Nt.grownN ((h.below HB1.out).below ((Below.refl _ _).alloc (Nat.le_refl _) _)) (HO1.out.alloc _) hgrow2)
   have HB2:Hid (Below w.heap.size w w2):=Lib.hid (((HR.out.2.2.2.1.trans (HB1.out.mono HR.out.2.2.2.1.size)).alloc HZ1.out _).grown hgrow2 (by have:=HZ1.out;simp;omega) (fun k hk=>by
    have:=HO1.out.lt k hk
    exact this.1))
   have HU2:Hid (Us w2 (us++[Value.slice b4 l4 c4])):=Lib.hid (fun t ht=>by
    by_cases h:t<us.length
    ·obtain⟨u,h1,h2⟩:=HR.out.2.1 t h
     exact⟨u,by rw[List.getElem?_append_left h];exact h1,HFN.out _ _ h2⟩
    ·have e:t=us.length:=by simp at ht;omega
     subst e
     exact⟨_,by simp,HFN.out _ _ HR.out.2.2.1⟩)
   have HM:=Lib.hid (mul_unit w2 _ us.length hi5 (HFN.out _ _ HR.out.2.2.1))
   have HO2:=Lib.hid hown3
   obtain⟨b5,c5,rfl⟩:=own_slice hown3
   clear hown2 hown3 hgrow2 hnil
   go_wp2_with fail
   refine HM.out.mono ?_
   rintro e w3 ⟨v3,rfl,hv3,hb3⟩
   have H3:=Lib.hid (And.intro hv3 hb3)
   obtain⟨b6,l6,c6,rfl⟩:=hv3.shape
   clear hv3 hb3
   go_wp2_with fail
   go_roundw
   case rel=>
    refine⟨us++[Value.slice b4 l4 c4],by simp;omega,Lib.hid ⟨by have:=own_belowN HO2.out H3.out.2;simpa using this,fun t ht=>?_,by simpa using H3.out.1,HB2.out.trans (H3.out.2.mono HB2.out.size),fun _=>by simpa using HLE.out⟩⟩
    obtain⟨u,h1,h2⟩:=HU2.out t ht
    exact⟨u,h1,h2.below H3.out.2⟩
   case measure=>simp[sliceLen]<;>omega
  ·have hcI: ¬cmpI (unitOf us.length) n≤0:=by unfold cmpI;rw[if_neg (by omega),if_pos (by omega)];omega
   have HLT:Hid ((n:Int)<unitOf us.length):=Lib.hid (by omega)
   generalize cmpI (unitOf us.length) n=cv at HC hcI
   clear hr ho hus hv4 hB hle hc
   go_wp2_with fail
   refine HC.out.mono ?_
   rintro e w1 ⟨rfl,hd⟩
   have HB1:Hid (Below wr.heap.size wr w1):=Lib.hid (hd.below _)
   have HB0:Hid (Below w.heap.size w w1):=Lib.hid (HR.out.2.2.2.1.trans (HB1.out.mono HR.out.2.2.2.1.size))
   have hp6:2^us.length≤64:=Nat.pow_le_pow_right (by omega) hl
   have HA:=Lib.hid (ad_any us.length w1 w1.heap.size (Nat.le_refl _) (pow10_below (HP.out w1 HB0.out)) _ n (HN.out.below HB0.out) HLT.out (.slice none 0 0) 0 [] (World.ownsRow_nil _ _ _ _) (by omega) _ ((Us.un HR.out.1 HR.out.2.1).fr (Fr.of_below HB1.out (Nat.le_refl _))) (by omega))
   have HT:=Lib.hid (trim_ad (j:=us.length) H0.out (by
    have h1:=HLT.out
    have h2:=unit_nat us.length
    have h3:=unit_pos us.length
    omega))
   clear hd hp6 hz0 hz1 hz2 hii hl HV0 HP HL H0 HN HU0 HR HLT HC
   go_wp2_with fail
   refine HA.out.mono ?_
   rintro e w2 ⟨vo,rfl,ho2,hf2⟩
   rw[List.nil_append]at ho2
   have hlen:(adD us.length n).length=0+19*2^us.length:=by
    have:=ho2.1
    unfold bc at this
    rw[List.length_map]at this
    omega
   have HF2:Hid (Below w.heap.size w w2):=Lib.hid (HB0.out.trans (hf2.below.mono HB0.out.size))
   obtain⟨g,cap,cur,rfl,hg⟩: ∃g cap cur,vo=.slice (some ⟨g,0,none⟩) (0+19*2^us.length) cap∧w2.heap[g]?=some (.cells cur 5 (0,0)):=by
    rcases ho2.2 with⟨_,h⟩|⟨g,cap,cur,h1,_,h2,_⟩
    ·have:0<2^us.length:=Nat.pow_pos (by omega)
     omega
    ·exact⟨g,cap,cur,h1,h2⟩
   have hcv:(convert 210 9 (.slice (some ⟨g,0,none⟩) (0+19*2^us.length) cap)).run Tryz.prog w2=.ok (.string ⟨(adD us.length n).toArray⟩) w2:=by
    rw[←hlen]
    refine run_convert_bytes_back w2 210 9 5 ⟨g,0,none⟩ cap (adD us.length n) Tryz.underlying210 Tryz.underlying5 Tryz.underlying9 (fun j hj=>?_)
    exact ho2.cells (g:=g) rfl j _ (by unfold bc;rw[List.getElem?_map,List.getElem?_eq_getElem hj];rfl)
   have HTR:=Lib.hid (trimLeft_any w2 (adD us.length n) 48 (by decide))
   rw[HT.out]at HTR
   generalize hm:0+19*2^us.length=M at hcv
   clear ho2 hf2 hlen hg hm HT
   generalize adD us.length n=l at hcv HTR
   go_wp2_with fail
   refine HTR.out.mono ?_
   rintro e w3 ⟨rfl,rfl⟩
   go_wp2_with fail
   go_ret
   exact⟨rfl,HF2.out⟩
end Go.Proofs.YtedhbbjlbgpafaaGreatDoor
namespace Go.Proofs.YtedhbbjlbgpafaaGreatDoor
open Go.RowKit Go.Shelf
attribute [local go_sem] eqNil neqNil
def PartsPost(w:World)(x y:Int)(e:Ending)(w':World):Prop:= ∃v1 v2,e=.returned (.tuple #[v1,v2])∧Nt w' v1 x∧Nt w' v2 y∧Below w.heap.size w w'
theorem parts_any(w:World)(v:Value)(s:Bool)(t b e:Int)(h:Nm w v s t b e)(ht:t<big)(hb:b<big)(b0:0<b)(he0: -1000000≤e)(he1:e≤1000000):
 Calls Tryz.prog 129 #[v] w (PartsPost w (t*2^e.toNat) (b*2^(-e).toNat)):=by
 obtain⟨bo,lb,cb,bo2,lb2,cb2,rfl,n1,n2⟩:=h.ex
 obtain⟨m1,hm1⟩: ∃m,max e 0=m:=⟨_,rfl⟩
 obtain⟨m2,hm2⟩: ∃m,max (-e) 0=m:=⟨_,rfl⟩
 have HM:Hid (0≤m1∧m1<1000000000∧0≤m2∧m2<1000000000∧m1.toNat=e.toNat∧m2.toNat=(-e).toNat):=Lib.hid (by omega)
 have hwn:IntKind.i64.wrap (-e)= -e:=IntWalk.i64_in _ (by omega)
 have HN:=Lib.hid n1
 have hT:=Lib.hid ht
 have hB:=Lib.hid hb
 clear n1 ht hb h
 rcases n2 with⟨rfl,h1⟩|⟨h1,h2⟩
 ·injection h1 with z1 z2 z3
  subst z1 z2 z3
  have HBx:Hid (Box (w.alloc (.cells #[.bool s,.slice bo lb cb,.slice none 0 0,.int .i64 e] 51)) w.heap.size #[.bool s,.slice bo lb cb,.slice none 0 0,.int .i64 e]∧Below w.heap.size w (w.alloc (.cells #[.bool s,.slice bo lb cb,.slice none 0 0,.int .i64 e] 51))):=Lib.hid ⟨Box.new w _ _,(Below.refl _ _).alloc (Nat.le_refl _) _⟩
  have HW0:Hid (Box ((w.alloc (.cells #[.bool s,.slice bo lb cb,.slice none 0 0,.int .i64 e] 51)).alloc (.cells #[.int .u64 1] 24)) w.heap.size #[.bool s,.slice bo lb cb,.slice none 0 0,.int .i64 e]∧Below w.heap.size w ((w.alloc (.cells #[.bool s,.slice bo lb cb,.slice none 0 0,.int .i64 e] 51)).alloc (.cells #[.int .u64 1] 24))∧Nt ((w.alloc (.cells #[.bool s,.slice bo lb cb,.slice none 0 0,.int .i64 e] 51)).alloc (.cells #[.int .u64 1] 24)) (.slice (some ⟨(w.alloc (.cells #[.bool s,.slice bo lb cb,.slice none 0 0,.int .i64 e] 51)).heap.size,0,none⟩) 1 1) 1):=Lib.hid ⟨HBx.out.1.alloc _,HBx.out.2.alloc HBx.out.2.size _,(nt_one _ 1 (by decide) (by decide))⟩
  go_enter Tryz.func129,Tryz.ntmps129
  go_wp2_with fail
  obtain⟨g1,hg1⟩: ∃g1,(w.alloc (.cells #[.bool s,.slice bo lb cb,.slice none 0 0,.int .i64 e] 51)).heap.size=g1:=⟨_,rfl⟩
  rw[hg1]at HW0
  simp only[World.size_alloc]at hg1
  rw[hg1]
  generalize hWd:(w.alloc (.cells #[.bool s,.slice bo lb cb,.slice none 0 0,.int .i64 e] 51)).alloc (.cells #[.int .u64 1] 24)=W0 at HW0⊢
  obtain⟨g,hg⟩: ∃g,w.heap.size=g:=⟨_,rfl⟩
  have hst: ∀(U1 U2:World),Hid (Box U1 g #[.bool s,.slice bo lb cb,.slice none 0 0,.int .i64 e]∧Below W0.heap.size W0 U1)→Below U1.heap.size U1 U2→Hid (Box U2 g #[.bool s,.slice bo lb cb,.slice none 0 0,.int .i64 e]∧Below W0.heap.size W0 U2)∧U2.cell? ⟨g,0,none⟩=some (.bool s)∧U2.cell? ⟨g,1,none⟩=some (.slice bo lb cb)∧U2.cell? ⟨g,2,none⟩=some (.slice none 0 0)∧U2.cell? ⟨g,3,none⟩=some (.int .i64 e):=fun U1 U2 h hb=>
   have h2:=h.out.1.below hb
   ⟨Lib.hid ⟨h2,h.out.2.trans (hb.mono h.out.2.size)⟩,h2.cell 0,h2.cell 1,h2.cell 2,h2.cell 3⟩
  have HSt:=Lib.hid hst
  have H:Hid (Box W0 g #[.bool s,.slice bo lb cb,.slice none 0 0,.int .i64 e]∧Below W0.heap.size W0 W0):=Lib.hid ⟨hg▸HW0.out.1,Below.refl _ _⟩
  have HL1:Hid (∀U,Below W0.heap.size W0 U→Calls Tryz.prog 155 #[.slice bo lb cb,.int .i64 m1] U (NewNt U (t*2^e.toNat))):=Lib.hid (fun U hU=>by
   have:=left_any U _ t ((HN.out.below HW0.out.2.1).below hU) hT.out m1 HM.out.1 HM.out.2.1
   rwa [HM.out.2.2.2.2.1]at this)
  have HL2:Hid (∀U,Below W0.heap.size W0 U→Calls Tryz.prog 155 #[.slice (some ⟨g1,0,none⟩) 1 1,.int .i64 m2] U (NewNt U (1*2^(-e).toNat))):=Lib.hid (fun U hU=>by
   have:=left_any U _ 1 (HW0.out.2.2.below hU) hB.out m2 HM.out.2.2.1 HM.out.2.2.2.1
   rwa [HM.out.2.2.2.2.2]at this)
  obtain⟨H0,r00,r01,r02,r03⟩:=HSt.out _ _ H (drew_below W0)
  rw[hg]
  clear hst hWd hg
  go_region_held3 (fun w'=>w'.cell? ⟨g,0,none⟩=some (.bool s)∧w'.cell? ⟨g,1,none⟩=some (.slice bo lb cb)∧w'.cell? ⟨g,2,none⟩=some (.slice none 0 0)∧w'.cell? ⟨g,3,none⟩=some (.int .i64 e)) (first|exact⟨r20,r21,r22,r23⟩|exact⟨r10,r11,r12,r13⟩|exact⟨r00,r01,r02,r03⟩)
   (first
   |(go_at_call 155;(with_reducible refine(HL1.out _ H0.out.2).mono ?_);rintro en w1 ⟨v1,rfl,hv,hb⟩;obtain⟨o1,l1,c1,rfl⟩:=hv.shape;obtain⟨H1,r10,r11,r12,r13⟩:=HSt.out _ _ H0 hb;have V1:=Lib.hid hv;clear hv hb)
   |(go_at_call 155;(with_reducible refine(HL2.out _ H1.out.2).mono ?_);rintro en w2 ⟨v2,rfl,hv,hb⟩;obtain⟨o2,l2,c2,rfl⟩:=hv.shape;obtain⟨H2,r20,r21,r22,r23⟩:=HSt.out _ _ H1 hb;have V2:=Lib.hid hv;have V12:=Lib.hid (V1.out.below hb);clear hv hb))
  all_goals
   clear r00 r01 r02 r03 r10 r11 r12 r13 r20 r21 r22 r23
   try go_wp2_with fail
   go_ret2
   exact⟨_,_,rfl,V12.out,V2.out,HW0.out.2.1.trans (H2.out.2.mono HW0.out.2.1.size)⟩
 ·obtain⟨a2,rfl⟩: ∃a,bo2=some a:=by
   cases bo2 with
   |none=>have:=h2.isNone;simp at this;omega
   |some a=>exact⟨a,rfl⟩
  have HBx:Hid (Box (w.alloc (.cells #[.bool s,.slice bo lb cb,.slice (some a2) lb2 cb2,.int .i64 e] 51)) w.heap.size #[.bool s,.slice bo lb cb,.slice (some a2) lb2 cb2,.int .i64 e]∧Below w.heap.size w (w.alloc (.cells #[.bool s,.slice bo lb cb,.slice (some a2) lb2 cb2,.int .i64 e] 51))):=Lib.hid ⟨Box.new w _ _,(Below.refl _ _).alloc (Nat.le_refl _) _⟩
  have HW0:Hid (Box ((w.alloc (.cells #[.bool s,.slice bo lb cb,.slice (some a2) lb2 cb2,.int .i64 e] 51))) w.heap.size #[.bool s,.slice bo lb cb,.slice (some a2) lb2 cb2,.int .i64 e]∧Below w.heap.size w ((w.alloc (.cells #[.bool s,.slice bo lb cb,.slice (some a2) lb2 cb2,.int .i64 e] 51)))∧Nt ((w.alloc (.cells #[.bool s,.slice bo lb cb,.slice (some a2) lb2 cb2,.int .i64 e] 51))) (.slice (some a2) lb2 cb2) b):=Lib.hid ⟨HBx.out.1,HBx.out.2,h2.below HBx.out.2⟩
  go_enter Tryz.func129,Tryz.ntmps129
  go_wp2_with fail
  generalize hWd:(w.alloc (.cells #[.bool s,.slice bo lb cb,.slice (some a2) lb2 cb2,.int .i64 e] 51))=W0 at HW0⊢
  obtain⟨g,hg⟩: ∃g,w.heap.size=g:=⟨_,rfl⟩
  have hst: ∀(U1 U2:World),Hid (Box U1 g #[.bool s,.slice bo lb cb,.slice (some a2) lb2 cb2,.int .i64 e]∧Below W0.heap.size W0 U1)→Below U1.heap.size U1 U2→Hid (Box U2 g #[.bool s,.slice bo lb cb,.slice (some a2) lb2 cb2,.int .i64 e]∧Below W0.heap.size W0 U2)∧U2.cell? ⟨g,0,none⟩=some (.bool s)∧U2.cell? ⟨g,1,none⟩=some (.slice bo lb cb)∧U2.cell? ⟨g,2,none⟩=some (.slice (some a2) lb2 cb2)∧U2.cell? ⟨g,3,none⟩=some (.int .i64 e):=fun U1 U2 h hb=>
   have h2:=h.out.1.below hb
   ⟨Lib.hid ⟨h2,h.out.2.trans (hb.mono h.out.2.size)⟩,h2.cell 0,h2.cell 1,h2.cell 2,h2.cell 3⟩
  have HSt:=Lib.hid hst
  have H:Hid (Box W0 g #[.bool s,.slice bo lb cb,.slice (some a2) lb2 cb2,.int .i64 e]∧Below W0.heap.size W0 W0):=Lib.hid ⟨hg▸HW0.out.1,Below.refl _ _⟩
  have HL1:Hid (∀U,Below W0.heap.size W0 U→Calls Tryz.prog 155 #[.slice bo lb cb,.int .i64 m1] U (NewNt U (t*2^e.toNat))):=Lib.hid (fun U hU=>by
   have:=left_any U _ t ((HN.out.below HW0.out.2.1).below hU) hT.out m1 HM.out.1 HM.out.2.1
   rwa [HM.out.2.2.2.2.1]at this)
  have HL2:Hid (∀U,Below W0.heap.size W0 U→Calls Tryz.prog 155 #[.slice (some a2) lb2 cb2,.int .i64 m2] U (NewNt U (b*2^(-e).toNat))):=Lib.hid (fun U hU=>by
   have:=left_any U _ b (HW0.out.2.2.below hU) hB.out m2 HM.out.2.2.1 HM.out.2.2.2.1
   rwa [HM.out.2.2.2.2.2]at this)
  obtain⟨H0,r00,r01,r02,r03⟩:=HSt.out _ _ H (drew_below W0)
  rw[hg]
  clear hst hWd hg
  go_region_held3 (fun w'=>w'.cell? ⟨g,0,none⟩=some (.bool s)∧w'.cell? ⟨g,1,none⟩=some (.slice bo lb cb)∧w'.cell? ⟨g,2,none⟩=some (.slice (some a2) lb2 cb2)∧w'.cell? ⟨g,3,none⟩=some (.int .i64 e)) (first|exact⟨r20,r21,r22,r23⟩|exact⟨r10,r11,r12,r13⟩|exact⟨r00,r01,r02,r03⟩)
   (first
   |(go_at_call 155;(with_reducible refine(HL1.out _ H0.out.2).mono ?_);rintro en w1 ⟨v1,rfl,hv,hb⟩;obtain⟨o1,l1,c1,rfl⟩:=hv.shape;obtain⟨H1,r10,r11,r12,r13⟩:=HSt.out _ _ H0 hb;have V1:=Lib.hid hv;clear hv hb)
   |(go_at_call 155;(with_reducible refine(HL2.out _ H1.out.2).mono ?_);rintro en w2 ⟨v2,rfl,hv,hb⟩;obtain⟨o2,l2,c2,rfl⟩:=hv.shape;obtain⟨H2,r20,r21,r22,r23⟩:=HSt.out _ _ H1 hb;have V2:=Lib.hid hv;have V12:=Lib.hid (V1.out.below hb);clear hv hb))
  all_goals
   clear r00 r01 r02 r03 r10 r11 r12 r13 r20 r21 r22 r23
   try go_wp2_with fail
   go_ret2
   exact⟨_,_,rfl,V12.out,V2.out,HW0.out.2.1.trans (H2.out.2.mono HW0.out.2.1.size)⟩
end Go.Proofs.YtedhbbjlbgpafaaGreatDoor
namespace Go.Proofs.YtedhbbjlbgpafaaGreatDoor
open Go.RowKit Go.Shelf
attribute [local go_sem] eqNil neqNil
theorem ba_add(x y:List UInt8):(⟨x.toArray⟩:ByteArray)++⟨y.toArray⟩=⟨(x++y).toArray⟩:=ByteArray.mk_append_mk ..
theorem ba_size(x:List UInt8):(⟨x.toArray⟩:ByteArray).size=x.length:=by simp[ByteArray.size]
theorem len_digits{x:Int}(h:x<unitOf 6)(h0:0≤x):(Lib.decDigits x.toNat).length≤1216:=by
 rw[Lib.decDigits_length]
 refine nDigits_le 1215 x.toNat ?_
 generalize hN:1215+1=N
 have h2:=unit_nat 6
 have h3:=unit_pos 6
 have:x.toNat<(unitOf 6).toNat:=by omega
 rw[h2]at this
 have e:19*2^6=N:=by rw[←hN]
 rw[e]at this
 exact this
theorem text_any(w:World)(hP:Pow10 w)(v:Value)(s:Bool)(t b e:Int)(h:Nm w v s t b e)(t0:0≤t)(b0:0<b)(he0: -1000000≤e)(he1:e≤1000000)(hT:t*2^e.toNat<unitOf 6)(hB:b*2^(-e).toNat<unitOf 6):
 Calls Tryz.prog 64 #[v] w (StrPost w (txS s t b e)):=by
 have n0:=h
 obtain⟨bo,lb,cb,bo2,lb2,cb2,rfl,n1,n2⟩:=h.ex
 have hbx:Box (w.alloc (.cells #[.bool s,.slice bo lb cb,.slice bo2 lb2 cb2,.int .i64 e] 51)) w.heap.size #[.bool s,.slice bo lb cb,.slice bo2 lb2 cb2,.int .i64 e]:=Box.new w _ _
 have hbl:Below w.heap.size w (w.alloc (.cells #[.bool s,.slice bo lb cb,.slice bo2 lb2 cb2,.int .i64 e] 51)):=(Below.refl _ _).alloc (Nat.le_refl _) _
 by_cases hz:t=0
 ·subst hz
  have e1:=n1.nil
  injection e1 with z1 z2 z3
  subst z1 z2 z3
  have HB:=Lib.hid hbl
  clear hP n0 n1 n2 hbx hbl hT hB
  go_enter Tryz.func64,Tryz.ntmps64
  go_wp2_with fail
  go_ret
  exact⟨rfl,HB.out⟩
 ·obtain⟨a,rfl⟩: ∃a,bo=some a:=by
   cases bo with
   |none=>have:=n1.isNone;simp at this;omega
   |some a=>exact⟨a,rfl⟩
  have hb6:=unit_big (show 6≤8 by omega)
  have p1:=p2pos e.toNat
  have p2:=p2pos (-e).toNat
  have tb:t≤t*2^e.toNat:=by
   have:=Int.mul_le_mul_of_nonneg_left (show 1≤(2:Int)^e.toNat by omega) t0
   omega
  have bb:b≤b*2^(-e).toNat:=by
   have:=Int.mul_le_mul_of_nonneg_left (show 1≤(2:Int)^(-e).toNat by omega) (show 0≤b by omega)
   omega
  have HPA:=Lib.hid (parts_any _ _ s t b e (n0.below hbl) (by omega) (by omega) b0 he0 he1)
  have htx:txS s t b e=(if s=true then [45]else [])++Lib.decDigits (t*2^e.toNat).toNat++(if b*2^(-e).toNat=1 then []else 47::Lib.decDigits (b*2^(-e).toNat).toNat):=by unfold txS;rw[if_neg hz]
  rw[htx]
  have l1:=len_digits hT (by omega)
  have l2:=len_digits hB (by omega)
  have T0:0<t*2^e.toNat:=by omega
  have B0:0<b*2^(-e).toNat:=by omega
  generalize t*2^e.toNat=T at*
  generalize b*2^(-e).toNat=B at*
  obtain⟨tn,rfl⟩: ∃n:Nat,T=n:=⟨T.toNat,by omega⟩
  obtain⟨bn,rfl⟩: ∃n:Nat,B=n:=⟨B.toNat,by omega⟩
  rw[Int.toNat_natCast]at l1 l2
  rw[Int.toNat_natCast,Int.toNat_natCast]
  have HH:=Lib.hid (And.intro l1 l2)
  have HBX:=Lib.hid (And.intro hbx hbl)
  have HDT:Hid (∀W v,Below w.heap.size w W→Nt W v (tn:Int)→Calls Tryz.prog 130 #[v] W (StrPost W (Lib.decDigits tn))):=Lib.hid (fun W v hb hv=>digits_any W (pow10_below hP W hb) v tn hv (by omega) hT)
  have HDB:Hid (∀W v,Below w.heap.size w W→Nt W v (bn:Int)→Calls Tryz.prog 130 #[v] W (StrPost W (Lib.decDigits bn))):=Lib.hid (fun W v hb hv=>digits_any W (pow10_below hP W hb) v bn hv (by omega) hB)
  have HIO:Hid (∀W v,Nt W v (bn:Int)→Calls Tryz.prog 131 #[v] W fun e w'=>e=.returned (.bool (decide ((bn:Int)=1)))∧W=w'):=Lib.hid (fun W v hv=>isOne_any W v bn hv (by omega))
  clear hP n0 n1 n2 hbx hbl hT hB hb6 p1 p2 tb bb htx l1 l2 T0 B0 hz t0 b0 he0 he1
  generalize hsf:(if(bn:Int)=1 then []else 47::Lib.decDigits bn)=sf
  have HSF:=Lib.hid hsf
  clear hsf
  cases s
  ·generalize hpf:(if false=true then [(45:UInt8)]else [])=pf
   have HPF:Hid (pf=[]):=Lib.hid (by rw[←hpf];rfl)
   clear hpf
   go_enter Tryz.func64,Tryz.ntmps64
   go_wp2_with fail
   refine HPA.out.mono ?_
   rintro en w1 ⟨v1,v2,rfl,h1,h2,hb1⟩
   have HB1:Hid (Below w.heap.size w w1):=Lib.hid (HBX.out.2.trans (hb1.mono HBX.out.2.size))
   have HX1:=Lib.hid (HBX.out.1.below hb1)
   have HD1:=Lib.hid (HDT.out w1 v1 HB1.out h1)
   have H2:=Lib.hid h2
   obtain⟨o1,n1,c1,rfl⟩:=h1.shape
   obtain⟨o2,n2,c2,rfl⟩:=h2.shape
   clear h1 h2 hb1 HPA
   go_wp2_with fail
   refine HD1.out.mono ?_
   rintro en w2 ⟨rfl,hb2⟩
   have HB2:Hid (Below w.heap.size w w2):=Lib.hid (HB1.out.trans (hb2.mono HB1.out.size))
   have HX2:=Lib.hid (HX1.out.below hb2)
   have H22:=Lib.hid (H2.out.below hb2)
   have HI:=Lib.hid (HIO.out w2 _ H22.out)
   have HD2:=Lib.hid (HDB.out w2 _ HB2.out H22.out)
   have c0:=HX2.out.cell 0
   clear hb2 HD1 H2 HDT HDB HIO
   obtain⟨l1,l2⟩:=HH.out
   generalize Lib.decDigits tn=DT at*
   generalize Lib.decDigits bn=DB at*
   generalize hone:decide ((bn:Int)=1)=one at HI
   have HONE:=Lib.hid hone
   clear hone
   have z1:=ba_size DT
   have z2:=ba_size DB
   have hcat1:(⟨#[45]⟩:ByteArray)++⟨DT.toArray⟩=⟨([45]++DT).toArray⟩:=ba_add [45] DT
   have hcs:(⟨#[45]⟩:ByteArray).size=1:=rfl
   go_wp2_with fail
   refine HI.out.mono ?_
   rintro en w3 ⟨rfl,rfl⟩
   have hcat2:(⟨#[47]⟩:ByteArray)++⟨DB.toArray⟩=⟨(47::DB).toArray⟩:=ba_add [47] DB
   have hcs2:(⟨#[47]⟩:ByteArray).size=1:=rfl
   have hcat3:(⟨(DT).toArray⟩:ByteArray)++⟨(47::DB).toArray⟩=⟨((DT)++47::DB).toArray⟩:=ba_add _ _
   have z3:=ba_size (47::DB)
   have z4:=ba_size (DT)
   have z5:(47::DB).length≤1217:=by simp;omega
   have z6:(DT).length≤1217:=by omega
   cases one
   ·have e2:sf=47::DB:=by rw[←HSF.out,if_neg (of_decide_eq_false HONE.out)]
    have E2:=Lib.hid e2
    clear e2
    go_wp2_with fail
    refine HD2.out.mono ?_
    rintro en w4 ⟨rfl,hb4⟩
    have HB4:=Lib.hid (HB2.out.trans (hb4.mono HB2.out.size))
    clear hb4
    go_wp2_with fail
    go_ret
    exact⟨by rw[HPF.out,E2.out];rfl,HB4.out⟩
   ·have e2:sf=[]:=by rw[←HSF.out,if_pos (of_decide_eq_true HONE.out)]
    have E2:=Lib.hid e2
    clear e2
    go_wp2_with fail
    go_ret
    exact⟨by rw[HPF.out,E2.out,List.append_nil];rfl,HB2.out⟩
  ·generalize hpf:(if true=true then [(45:UInt8)]else [])=pf
   have HPF:Hid (pf=[45]):=Lib.hid (by rw[←hpf];rfl)
   clear hpf
   go_enter Tryz.func64,Tryz.ntmps64
   go_wp2_with fail
   refine HPA.out.mono ?_
   rintro en w1 ⟨v1,v2,rfl,h1,h2,hb1⟩
   have HB1:Hid (Below w.heap.size w w1):=Lib.hid (HBX.out.2.trans (hb1.mono HBX.out.2.size))
   have HX1:=Lib.hid (HBX.out.1.below hb1)
   have HD1:=Lib.hid (HDT.out w1 v1 HB1.out h1)
   have H2:=Lib.hid h2
   obtain⟨o1,n1,c1,rfl⟩:=h1.shape
   obtain⟨o2,n2,c2,rfl⟩:=h2.shape
   clear h1 h2 hb1 HPA
   go_wp2_with fail
   refine HD1.out.mono ?_
   rintro en w2 ⟨rfl,hb2⟩
   have HB2:Hid (Below w.heap.size w w2):=Lib.hid (HB1.out.trans (hb2.mono HB1.out.size))
   have HX2:=Lib.hid (HX1.out.below hb2)
   have H22:=Lib.hid (H2.out.below hb2)
   have HI:=Lib.hid (HIO.out w2 _ H22.out)
   have HD2:=Lib.hid (HDB.out w2 _ HB2.out H22.out)
   have c0:=HX2.out.cell 0
   clear hb2 HD1 H2 HDT HDB HIO
   obtain⟨l1,l2⟩:=HH.out
   generalize Lib.decDigits tn=DT at*
   generalize Lib.decDigits bn=DB at*
   generalize hone:decide ((bn:Int)=1)=one at HI
   have HONE:=Lib.hid hone
   clear hone
   have z1:=ba_size DT
   have z2:=ba_size DB
   have hcat1:(⟨#[45]⟩:ByteArray)++⟨DT.toArray⟩=⟨([45]++DT).toArray⟩:=ba_add [45] DT
   have hcs:(⟨#[45]⟩:ByteArray).size=1:=rfl
   go_wp2_with fail
   refine HI.out.mono ?_
   rintro en w3 ⟨rfl,rfl⟩
   have hcat2:(⟨#[47]⟩:ByteArray)++⟨DB.toArray⟩=⟨(47::DB).toArray⟩:=ba_add [47] DB
   have hcs2:(⟨#[47]⟩:ByteArray).size=1:=rfl
   have hcat3:(⟨(45::DT).toArray⟩:ByteArray)++⟨(47::DB).toArray⟩=⟨((45::DT)++47::DB).toArray⟩:=ba_add _ _
   have z3:=ba_size (47::DB)
   have z4:=ba_size (45::DT)
   have z5:(47::DB).length≤1217:=by simp;omega
   have z6:(45::DT).length≤1217:=by simp;omega
   cases one
   ·have e2:sf=47::DB:=by rw[←HSF.out,if_neg (of_decide_eq_false HONE.out)]
    have E2:=Lib.hid e2
    clear e2
    go_wp2_with fail
    refine HD2.out.mono ?_
    rintro en w4 ⟨rfl,hb4⟩
    have HB4:=Lib.hid (HB2.out.trans (hb4.mono HB2.out.size))
    clear hb4
    go_wp2_with fail
    go_ret
    exact⟨by rw[HPF.out,E2.out];rfl,HB4.out⟩
   ·have e2:sf=[]:=by rw[←HSF.out,if_pos (of_decide_eq_true HONE.out)]
    have E2:=Lib.hid e2
    clear e2
    go_wp2_with fail
    go_ret
    exact⟨by rw[HPF.out,E2.out,List.append_nil];rfl,HB2.out⟩
end Go.Proofs.YtedhbbjlbgpafaaGreatDoor
