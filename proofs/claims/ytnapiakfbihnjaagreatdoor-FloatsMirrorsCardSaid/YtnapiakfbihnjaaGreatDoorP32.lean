/-
  strconv.FormatUint at base 10: the decimal digits of a word.
-/
import Derived.Shelf.Strconv.Itoa3
import Derived.Shelf.Strings.Repeat
import Derived.Shelf.Strings.Trim
import Derived.Test.YtnapiakfbihnjaaGreatDoorP17
import Derived.Lib.AppendStr
set_option linter.unusedVariables false
set_option linter.unusedSimpArgs false
set_option maxRecDepth 1000000
set_option maxHeartbeats 2000000
namespace Go.Proofs
open Go.Shelf
def Tryz.lays317_ren:Go.Shelf.Ren:=⟨fun|317=>296|n=>n,fun|3=>3|46=>144|n=>n,fun|n=>n⟩
theorem Tryz.lays317:Go.Proofs.Lays.n317 Tryz.prog Tryz.lays317_ren:=
 {mixed:=by kernel_rfl,
  f317:=Tryz.func296.trans (congrArg some (by kernel_rfl)),
  t3:=Tryz.underlying3,
  a3:=Tryz.isAgg3,
  z3:=Tryz.sizeOf3,
  v3:=Tryz.zeroValue3,
  t46:=Tryz.underlying144,
  a46:=Tryz.isAgg144,
  z46:=Tryz.sizeOf144,
  v46:=Tryz.zeroValue144}
def Tryz.lays318_ren:Go.Shelf.Ren:=⟨fun|318=>297|n=>n,fun|3=>3|4=>4|n=>n,fun|n=>n⟩
theorem Tryz.lays318:Go.Proofs.Lays.n318 Tryz.prog Tryz.lays318_ren:=
 {mixed:=by kernel_rfl,
  f318:=Tryz.func297.trans (congrArg some (by kernel_rfl)),
  t3:=Tryz.underlying3,
  a3:=Tryz.isAgg3,
  z3:=Tryz.sizeOf3,
  v3:=Tryz.zeroValue3,
  t4:=Tryz.underlying4,
  a4:=Tryz.isAgg4,
  z4:=Tryz.sizeOf4,
  v4:=Tryz.zeroValue4}
def Tryz.lays129_ren:Go.Shelf.Ren:=⟨fun|129=>287|n=>n,fun|53=>24|3=>3|4=>4|46=>144|5=>5|9=>9|n=>n,fun|n=>n⟩
theorem Tryz.lays129:Go.Proofs.Lays.n129 Tryz.prog Tryz.lays129_ren:=
 {mixed:=by kernel_rfl,
  f129:=Tryz.func287.trans (congrArg some (by kernel_rfl)),
  t3:=Tryz.underlying3,
  a3:=Tryz.isAgg3,
  z3:=Tryz.sizeOf3,
  v3:=Tryz.zeroValue3,
  t4:=Tryz.underlying4,
  a4:=Tryz.isAgg4,
  z4:=Tryz.sizeOf4,
  v4:=Tryz.zeroValue4,
  t5:=Tryz.underlying5,
  a5:=Tryz.isAgg5,
  z5:=Tryz.sizeOf5,
  v5:=Tryz.zeroValue5,
  t9:=Tryz.underlying9,
  a9:=Tryz.isAgg9,
  z9:=Tryz.sizeOf9,
  v9:=Tryz.zeroValue9,
  t46:=Tryz.underlying144,
  a46:=Tryz.isAgg144,
  z46:=Tryz.sizeOf144,
  v46:=Tryz.zeroValue144,
  t53:=Tryz.underlying24,
  a53:=Tryz.isAgg24,
  z53:=Tryz.sizeOf24,
  v53:=Tryz.zeroValue24}
def Tryz.lays285_ren:Go.Shelf.Ren:=⟨fun|285=>282|n=>n,fun|37=>196|53=>24|3=>3|4=>4|51=>279|9=>9|5=>5|0=>0|n=>n,fun|n=>n⟩
theorem Tryz.lays285:Go.Proofs.Lays.n285 Tryz.prog Tryz.lays285_ren:=
 {mixed:=by kernel_rfl,
  f285:=Tryz.func282.trans (congrArg some (by kernel_rfl)),
  t0:=Tryz.underlying0,
  a0:=Tryz.isAgg0,
  z0:=Tryz.sizeOf0,
  v0:=Tryz.zeroValue0,
  t3:=Tryz.underlying3,
  a3:=Tryz.isAgg3,
  z3:=Tryz.sizeOf3,
  v3:=Tryz.zeroValue3,
  t4:=Tryz.underlying4,
  a4:=Tryz.isAgg4,
  z4:=Tryz.sizeOf4,
  v4:=Tryz.zeroValue4,
  t5:=Tryz.underlying5,
  a5:=Tryz.isAgg5,
  z5:=Tryz.sizeOf5,
  v5:=Tryz.zeroValue5,
  t9:=Tryz.underlying9,
  a9:=Tryz.isAgg9,
  z9:=Tryz.sizeOf9,
  v9:=Tryz.zeroValue9,
  t37:=Tryz.underlying196,
  a37:=Tryz.isAgg196,
  z37:=Tryz.sizeOf196,
  v37:=Tryz.zeroValue196,
  t51:=Tryz.underlying279,
  a51:=Tryz.isAgg279,
  z51:=Tryz.sizeOf279,
  v51:=Tryz.zeroValue279,
  t53:=Tryz.underlying24,
  a53:=Tryz.isAgg24,
  z53:=Tryz.sizeOf24,
  v53:=Tryz.zeroValue24}
def Tryz.lays283_ren:Go.Shelf.Ren:=⟨fun|283=>280|n=>n,fun|3=>3|9=>9|4=>4|n=>n,fun|n=>n⟩
theorem Tryz.lays283:Go.Proofs.Lays.n283 Tryz.prog Tryz.lays283_ren:=
 {mixed:=by kernel_rfl,
  f283:=Tryz.func280.trans (congrArg some (by kernel_rfl)),
  t3:=Tryz.underlying3,
  a3:=Tryz.isAgg3,
  z3:=Tryz.sizeOf3,
  v3:=Tryz.zeroValue3,
  t4:=Tryz.underlying4,
  a4:=Tryz.isAgg4,
  z4:=Tryz.sizeOf4,
  v4:=Tryz.zeroValue4,
  t9:=Tryz.underlying9,
  a9:=Tryz.isAgg9,
  z9:=Tryz.sizeOf9,
  v9:=Tryz.zeroValue9}
end Go.Proofs
namespace Go.Proofs.YtnapiakfbihnjaaGreatDoor
open Go.RowKit Go.Shelf Go.Lib Go.Sort
def uS(w:World):Prop:= ∀i,i<20→w.cell? ⟨9,i,none⟩=some (.int .u64 ((10^i:Nat):Int))
theorem sU{w:World}(h:uS w): ∀w',Below w.heap.size w w'→uS w':=fun w' hb i hi=>by
 have h1:=h i hi
 have hlt:=World.block_lt_of_cell? w _ h1
 exact(hb.cell (p:=⟨9,i,none⟩) hlt).trans h1
def wu(w:World)(s:List UInt8)(e:Ending)(w':World):Prop:=e=.returned (.string ⟨s.toArray⟩)∧Below w.heap.size w w'
theorem adS(w:World)(x:Int)(h0:0≤x)(h1:x≤18446744073709551615):Calls Tryz.prog 287 #[.int .u64 x] w fun e w'=>e=.returned (.int .i64 (Lib.bitLen x.toNat))∧w'=w:=Any.bits_Len64 Tryz.lays129 x w h0 h1
theorem adT(w:World)(x:Nat)(h:x≤64):Calls Tryz.prog 296 #[.int .i64 x] w fun e w'=>e=.returned (.int .i64 (Lib.l10 x))∧w'=w:=Any.internal_strconv_log10Pow2 Tryz.lays317 x h w
theorem adU(w:World)(b:Bool):Calls Tryz.prog 297 #[.bool b] w fun e w'=>e=.returned (.int .i64 (if b then 1 else 0))∧w'=w:=Any.internal_strconv_bool2_int Tryz.lays318 b w
theorem Qx(w:World)(u:Nat)(h1:1≤u)(h2:u<18446744073709551616)(h:uS w):
 Calls Tryz.prog 281 #[.int .u64 u] w fun e w'=>e=.returned (.int .i64 (Lib.nDigits u))∧w'=w:=by
 obtain⟨hnd,h19⟩:=Lib.numDigits_eq u h1 h2
 have hL:Lib.bitLen u≤64:=Lib.bitLen_le u 64 (Nat.le_refl _) h2
 have hc:=h (Lib.l10 (Lib.bitLen u)) (by omega)
 have H1:=h_ (adS w u (by omega) (by omega))
 rw[Int.toNat_natCast]at H1
 have H2:=h_ (adT w _ hL)
 generalize Lib.bitLen u=L at*
 generalize Lib.l10 L=q at*
 generalize hT:10^q=T at hnd hc
 have H3:=h_ (adU w (decide (T≤u)))
 have Nl:Hid ((q:Int)+(if decide (T≤u)=true then 1 else 0)=Lib.nDigits u):=h_ (by
  rw[←hnd]
  by_cases hl:T≤u
  ·rw[if_pos hl,decide_eq_true hl,if_pos rfl];omega
  ·rw[if_neg hl,decide_eq_false hl,if_neg (by decide)];omega)
 have hw:IntKind.i64.wrap ((q:Int)+(if decide (T≤u)=true then 1 else 0))=(q:Int)+(if decide (T≤u)=true then 1 else 0):=IntWalk.i64_in _ (by split<;>omega)
 generalize (if decide (T≤u)=true then(1:Int)else 0)=dd at*
 have aAM:q<20:=by omega
 clear hT hnd h
 go_enter Tryz.func281,Tryz.ntmps281
 go_wp2_with fail
 refine H1.out.mono ?_
 rintro e w ⟨rfl,rfl⟩
 go_wp2_with fail
 refine H2.out.mono ?_
 rintro e w ⟨rfl,rfl⟩
 go_wp2_with fail
 refine H3.out.mono ?_
 rintro e w ⟨rfl,rfl⟩
 go_wp2_with fail
 go_ret
 exact⟨congrArg (fun x=>Ending.returned (Value.int .i64 x)) Nl.out,rfl⟩
theorem Gx(w:World)(i:Nat)(h:i<100):Calls Tryz.prog 280 #[.int .i64 i] w fun e w'=>e=.returned (.string ⟨(Lib.decDigits i).toArray⟩)∧w'=w:=Any.internal_strconv_small Tryz.lays283 i h w
theorem aaZ(w:World)(blk off cap:Nat)(u:Nat)(d:Array UInt8)(hH:Holds (fun(b:UInt8)=>Value.int .u8 (b.toNat:Int)) w blk off d)(hu:u<10^d.size)(hu64:u<18446744073709551616)(hsz:d.size<4611686018427387904):
 Calls Tryz.prog 282 #[.slice (some ⟨blk,off,none⟩) d.size cap,.int .u64 u] w fun e w'=>
  e=.returned (.tuple #[])∧ ∃(n v':Nat) (dk:Array UInt8),w'=(putRow (fun(b:UInt8)=>Value.int .u8 (b.toNat:Int)) w blk off dk).drewN n∧FmtInv d.size u 0 v' dk:=Any.internal_strconv_formatBase10 Tryz.lays285 blk off cap u d w hH hu hu64 hsz
theorem ahm(w:World)(u:Nat)(h2:u<18446744073709551616)(h:uS w):
 Calls Tryz.prog 254 #[.int .u64 u,.int .i64 10] w (wu w (Lib.decDigits u)):=by
 by_cases hs:u<100
 ·have hs':(u:Int)<100:=by omega
  go_enter Tryz.func254,Tryz.ntmps254
  go_wp2_with (go_at_call 280;refine(Gx _ u hs).mono ?_;rintro e w' ⟨rfl,rfl⟩)
  all_goals first|(go_ret;exact⟨rfl,Below.refl _ _⟩)
 ·have hs': ¬(u:Int)<100:=by omega
  have hu1:1≤u:=by omega
  have hnd20:Lib.nDigits u≤20:=by have:=Lib.numDigits_eq u hu1 h2;split at this<;>omega
  have hsl1: ∀W,(Instr.sliceAt 275 (.pointer (some ⟨w.heap.size,0,none⟩)) none (some (.int .i64 (Lib.nDigits u:Int))) none).run Tryz.prog W=.ok (.slice (some ⟨w.heap.size,0,none⟩) (Lib.nDigits u) 24) W:=fun W=>by
   rw[run_sliceAt_array_h W 275 ⟨w.heap.size,0,none⟩ (show Tryz.prog.underlying 275=some (.array 24 5)from rfl) .i64 (Lib.nDigits u:Int) (by omega) (by rw[show Tryz.prog.arrayLen 275=24 from rfl];omega)]
   go_simp
  have hH0:Holds (fun(b:UInt8)=>Value.int .u8 (b.toNat:Int)) (w.alloc (.cells Lib.zeros24 275)) w.heap.size 0 (Array.replicate (Lib.nDigits u) (0:UInt8)):=fun j hj=>by
   have hj':j<Lib.nDigits u:=by simpa using hj
   refine⟨?_,World.frozen?_alloc_new _ _ _ _⟩
   rw[World.cell?_alloc_new,Lib.zeros24_at _ (by omega),getElem!_pos _ j hj]
   simp
  have hfmt:=aaZ (w.alloc (.cells Lib.zeros24 275)) w.heap.size 0 24 u (Array.replicate (Lib.nDigits u) 0) hH0 (by rw[Array.size_replicate];exact Lib.lt_pow_nDigits u) h2 (by rw[Array.size_replicate];omega)
  rw[Array.size_replicate]at hfmt
  have HH0:=h_ hH0
  have HND:=h_ (Qx (w.alloc (.cells Lib.zeros24 275)) u hu1 h2 (sU h _ ((Below.refl _ _).alloc (Nat.le_refl _) _)))
  clear hH0
  go_enter Tryz.func254,Tryz.ntmps254
  go_wp2_with fail
  refine HND.out.mono ?_
  rintro e w' ⟨rfl,rfl⟩
  go_wp2_with fail
  refine hfmt.mono ?_
  rintro e w' ⟨rfl,k,v',dk,rfl,hF⟩
  have hcv:(convert 196 9 (.slice (some ⟨w.heap.size,0,none⟩) (Lib.nDigits u) 24)).run Tryz.prog ((putRow (fun(b:UInt8)=>Value.int .u8 (b.toNat:Int)) (w.alloc (.cells Lib.zeros24 275)) w.heap.size 0 dk).drewN k)=.ok (.string ⟨(Lib.decDigits u).toArray⟩) ((putRow (fun(b:UInt8)=>Value.int .u8 (b.toNat:Int)) (w.alloc (.cells Lib.zeros24 275)) w.heap.size 0 dk).drewN k):=by
   have h:=run_convert_bytes_back (P:=Tryz.prog) ((putRow (fun(b:UInt8)=>Value.int .u8 (b.toNat:Int)) (w.alloc (.cells Lib.zeros24 275)) w.heap.size 0 dk).drewN k) 196 9 5 ⟨w.heap.size,0,none⟩ 24 (Lib.decDigits u) rfl rfl rfl (fun j hj=>by
    rw[Lib.row_is_numeral hF j hj,Lib.add_plain,World.cell?_drewN]
    exact cell?_putRow (fun(b:UInt8)=>Value.int .u8 (b.toNat:Int)) _ w.heap.size 0 _ dk HH0.out (by rw[hF.size,Array.size_replicate]) j (by rw[hF.size];rw[Lib.decDigits_length]at hj;exact hj))
   rw[Lib.decDigits_length]at h
   exact h
  go_wp2_with fail
  go_ret
  obtain⟨os,eo⟩: ∃os,(putRow (fun(b:UInt8)=>Value.int .u8 (b.toNat:Int)) (w.alloc (.cells Lib.zeros24 275)) w.heap.size 0 dk).drewN k=grow (w.drewN k) os:=by
   rw[alloc_eq_grow]
   obtain⟨os',_,e⟩:=putRow_grow_new (fun(b:UInt8)=>Value.int .u8 (b.toNat:Int)) w #[.cells Lib.zeros24 275] w.heap.size 0 dk (Nat.le_refl _)
   exact⟨os',by rw[e];rfl⟩
  exact⟨rfl,by rw[eo];exact⟨rfl,rfl,rfl,by show w.heap.size≤(w.heap++os).size;rw[Array.size_append];omega,fun j hj=>by show(w.heap++os)[j]?=w.heap[j]?;rw[Array.getElem?_append_left (by omega)]⟩⟩
theorem Xm(w:World)(u:Nat)(h2:u<18446744073709551616)(h:uS w):
 Calls Tryz.prog 220 #[.int .u64 u,.int .i64 10] w (wu w (Lib.decDigits u)):=by
 have H:=h_ (ahm w u h2 h)
 clear h h2
 go_enter Tryz.func220,Tryz.ntmps220
 go_wp2_with fail
 refine H.out.mono ?_
 rintro e w' ⟨rfl,hb⟩
 go_wp2_with fail
 go_ret
 exact⟨rfl,hb⟩
end Go.Proofs.YtnapiakfbihnjaaGreatDoor
namespace Go.Proofs
open Go.Shelf
def Tryz.lays105_ren:Go.Shelf.Ren:=⟨fun|105=>222|212=>255|99=>256|165=>257|166=>258|170=>259|169=>260|263=>284|264=>246|206=>241|240=>285|241=>286|276=>300|277=>301|n=>n,fun|9=>9|3=>3|4=>4|20=>20|0=>0|46=>144|109=>255|5=>5|72=>259|76=>261|51=>279|146=>280|53=>24|148=>204|70=>257|37=>196|75=>214|127=>282|164=>296|80=>139|n=>n,fun|n=>n⟩
theorem Tryz.lays105:Go.Proofs.Lays.n105 Tryz.prog Tryz.lays105_ren:=
 {mixed:=by kernel_rfl,
  f99:=Tryz.func256.trans (congrArg some (by kernel_rfl)),
  f105:=Tryz.func222.trans (congrArg some (by kernel_rfl)),
  f165:=Tryz.func257.trans (congrArg some (by kernel_rfl)),
  f166:=Tryz.func258.trans (congrArg some (by kernel_rfl)),
  f169:=Tryz.func260.trans (congrArg some (by kernel_rfl)),
  f170:=Tryz.func259.trans (congrArg some (by kernel_rfl)),
  f206:=Tryz.func241.trans (congrArg some (by kernel_rfl)),
  f212:=Tryz.func255.trans (congrArg some (by kernel_rfl)),
  f240:=Tryz.func285.trans (congrArg some (by kernel_rfl)),
  f241:=Tryz.func286.trans (congrArg some (by kernel_rfl)),
  f263:=Tryz.func284.trans (congrArg some (by kernel_rfl)),
  f264:=Tryz.func246.trans (congrArg some (by kernel_rfl)),
  f276:=Tryz.func300.trans (congrArg some (by kernel_rfl)),
  f277:=Tryz.func301.trans (congrArg some (by kernel_rfl)),
  t0:=Tryz.underlying0,
  a0:=Tryz.isAgg0,
  z0:=Tryz.sizeOf0,
  v0:=Tryz.zeroValue0,
  t3:=Tryz.underlying3,
  a3:=Tryz.isAgg3,
  z3:=Tryz.sizeOf3,
  v3:=Tryz.zeroValue3,
  t4:=Tryz.underlying4,
  a4:=Tryz.isAgg4,
  z4:=Tryz.sizeOf4,
  v4:=Tryz.zeroValue4,
  t5:=Tryz.underlying5,
  a5:=Tryz.isAgg5,
  z5:=Tryz.sizeOf5,
  v5:=Tryz.zeroValue5,
  t9:=Tryz.underlying9,
  a9:=Tryz.isAgg9,
  z9:=Tryz.sizeOf9,
  v9:=Tryz.zeroValue9,
  t20:=Tryz.underlying20,
  a20:=Tryz.isAgg20,
  z20:=Tryz.sizeOf20,
  v20:=Tryz.zeroValue20,
  t37:=Tryz.underlying196,
  a37:=Tryz.isAgg196,
  z37:=Tryz.sizeOf196,
  v37:=Tryz.zeroValue196,
  t46:=Tryz.underlying144,
  a46:=Tryz.isAgg144,
  z46:=Tryz.sizeOf144,
  v46:=Tryz.zeroValue144,
  t51:=Tryz.underlying279,
  a51:=Tryz.isAgg279,
  z51:=Tryz.sizeOf279,
  v51:=Tryz.zeroValue279,
  t53:=Tryz.underlying24,
  a53:=Tryz.isAgg24,
  z53:=Tryz.sizeOf24,
  v53:=Tryz.zeroValue24,
  t70:=Tryz.underlying257,
  a70:=Tryz.isAgg257,
  z70:=Tryz.sizeOf257,
  v70:=Tryz.zeroValue257,
  t72:=Tryz.underlying259,
  a72:=Tryz.isAgg259,
  z72:=Tryz.sizeOf259,
  v72:=Tryz.zeroValue259,
  t75:=Tryz.underlying214,
  a75:=Tryz.isAgg214,
  z75:=Tryz.sizeOf214,
  v75:=Tryz.zeroValue214,
  t76:=Tryz.underlying261,
  a76:=Tryz.isAgg261,
  z76:=Tryz.sizeOf261,
  v76:=Tryz.zeroValue261,
  t109:=Tryz.underlying255,
  a109:=Tryz.isAgg255,
  z109:=Tryz.sizeOf255,
  v109:=Tryz.zeroValue255,
  t127:=Tryz.underlying282,
  a127:=Tryz.isAgg282,
  z127:=Tryz.sizeOf282,
  v127:=Tryz.zeroValue282,
  t146:=Tryz.underlying280,
  a146:=Tryz.isAgg280,
  z146:=Tryz.sizeOf280,
  v146:=Tryz.zeroValue280,
  t148:=Tryz.underlying204,
  a148:=Tryz.isAgg204,
  z148:=Tryz.sizeOf204,
  v148:=Tryz.zeroValue204,
  t164:=Tryz.underlying296,
  a164:=Tryz.isAgg296,
  z164:=Tryz.sizeOf296,
  v164:=Tryz.zeroValue296}
def Tryz.lays161_ren:Go.Shelf.Ren:=⟨fun|161=>181|231=>216|227=>217|233=>218|235=>219|228=>251|197=>252|151=>253|260=>278|152=>279|137=>294|119=>295|224=>270|225=>269|217=>268|266=>289|n=>n,fun|9=>9|4=>4|3=>3|5=>5|117=>223|116=>222|0=>0|124=>226|105=>252|21=>21|119=>289|46=>144|139=>292|138=>291|n=>n,fun|3=>7|4=>8|n=>n⟩
theorem Tryz.lays161:Go.Proofs.Lays.n161 Tryz.prog Tryz.lays161_ren:=
 {mixed:=by kernel_rfl,
  f119:=Tryz.func295.trans (congrArg some (by kernel_rfl)),
  f137:=Tryz.func294.trans (congrArg some (by kernel_rfl)),
  f151:=Tryz.func253.trans (congrArg some (by kernel_rfl)),
  f152:=Tryz.func279.trans (congrArg some (by kernel_rfl)),
  f161:=Tryz.func181.trans (congrArg some (by kernel_rfl)),
  f197:=Tryz.func252.trans (congrArg some (by kernel_rfl)),
  f217:=Tryz.func268.trans (congrArg some (by kernel_rfl)),
  f224:=Tryz.func270.trans (congrArg some (by kernel_rfl)),
  f225:=Tryz.func269.trans (congrArg some (by kernel_rfl)),
  f227:=Tryz.func217.trans (congrArg some (by kernel_rfl)),
  f228:=Tryz.func251.trans (congrArg some (by kernel_rfl)),
  f231:=Tryz.func216.trans (congrArg some (by kernel_rfl)),
  f233:=Tryz.func218.trans (congrArg some (by kernel_rfl)),
  f235:=Tryz.func219.trans (congrArg some (by kernel_rfl)),
  f260:=Tryz.func278.trans (congrArg some (by kernel_rfl)),
  f266:=Tryz.func289.trans (congrArg some (by kernel_rfl)),
  t0:=Tryz.underlying0,
  a0:=Tryz.isAgg0,
  z0:=Tryz.sizeOf0,
  v0:=Tryz.zeroValue0,
  t3:=Tryz.underlying3,
  a3:=Tryz.isAgg3,
  z3:=Tryz.sizeOf3,
  v3:=Tryz.zeroValue3,
  t4:=Tryz.underlying4,
  a4:=Tryz.isAgg4,
  z4:=Tryz.sizeOf4,
  v4:=Tryz.zeroValue4,
  t5:=Tryz.underlying5,
  a5:=Tryz.isAgg5,
  z5:=Tryz.sizeOf5,
  v5:=Tryz.zeroValue5,
  t9:=Tryz.underlying9,
  a9:=Tryz.isAgg9,
  z9:=Tryz.sizeOf9,
  v9:=Tryz.zeroValue9,
  t21:=Tryz.underlying21,
  a21:=Tryz.isAgg21,
  z21:=Tryz.sizeOf21,
  v21:=Tryz.zeroValue21,
  t46:=Tryz.underlying144,
  a46:=Tryz.isAgg144,
  z46:=Tryz.sizeOf144,
  v46:=Tryz.zeroValue144,
  t105:=Tryz.underlying252,
  a105:=Tryz.isAgg252,
  z105:=Tryz.sizeOf252,
  v105:=Tryz.zeroValue252,
  t116:=Tryz.underlying222,
  a116:=Tryz.isAgg222,
  z116:=Tryz.sizeOf222,
  t117:=Tryz.underlying223,
  a117:=Tryz.isAgg223,
  z117:=Tryz.sizeOf223,
  v117:=Tryz.zeroValue223,
  t119:=Tryz.underlying289,
  a119:=Tryz.isAgg289,
  z119:=Tryz.sizeOf289,
  t124:=Tryz.underlying226,
  a124:=Tryz.isAgg226,
  z124:=Tryz.sizeOf226,
  v124:=Tryz.zeroValue226,
  t138:=Tryz.underlying291,
  a138:=Tryz.isAgg291,
  z138:=Tryz.sizeOf291,
  v138:=Tryz.zeroValue291,
  t139:=Tryz.underlying292,
  a139:=Tryz.isAgg292,
  z139:=Tryz.sizeOf292,
  v139:=Tryz.zeroValue292,
  g3:=by kernel_rfl,
  g4:=by kernel_rfl}
theorem Tryz.extra105:Builder.Extra Tryz.prog Tryz.lays105_ren where
 sizeBuilder:=by kernel_rfl
 liesBuilder:=by kernel_rfl
 t5:=Tryz.underlying5
 a5:=Tryz.isAgg5
 z5:=Tryz.sizeOf5
 v5:=Tryz.zeroValue5
 infoByte:=by kernel_rfl
 cellsByte:=by kernel_rfl
 sizeByte:=by kernel_rfl
 neB5:=by decide
end Go.Proofs
namespace Go.Proofs.YtnapiakfbihnjaaGreatDoor
open Go.RowKit Go.Shelf Go.Lib Go.Sort
theorem aa0(w:World)(s:List UInt8)(c:Nat)(hc:c≤1000)(hs:s.length≤1000):Calls Tryz.prog 222 #[.string ⟨s.toArray⟩,.int .i64 c] w (wu w (Lib.repeatL s c)):=by
 have hsz:(⟨s.toArray⟩:ByteArray).size=s.length:=by simp[ByteArray.size]
 have h:=Any.strings_Repeat Tryz.lays105 Tryz.extra105 ⟨s.toArray⟩ c w (by omega) (by rw[hsz];have:=Nat.mul_le_mul hs hc;omega)
 exact h
theorem Ub(w:World)(s:List UInt8)(c:UInt8)(hc:c.toNat<128):Calls Tryz.prog 181 #[.string ⟨s.toArray⟩,.string ⟨#[c]⟩] w fun e w'=>e=.returned (.string ⟨(Lib.trimLeftB s c).toArray⟩)∧w'=w:=Any.strings_TrimLeft_one Tryz.lays161 ⟨s.toArray⟩ c hc w
end Go.Proofs.YtnapiakfbihnjaaGreatDoor
namespace Go.Proofs.YtnapiakfbihnjaaGreatDoor
open Go.RowKit Go.Shelf Tryz
attribute [local go_sem] fQ dP
def bJ(i:Nat):Int:=10000000000000000000^(2^i)
theorem pO(i:Nat):0<bJ i:=Int.pow_pos (by decide)
theorem Cj:bJ 0=10000000000000000000:=by unfold bJ;rw[Nat.pow_zero,Int.pow_succ,Int.pow_zero,Int.one_mul]
theorem xZ(i:Nat):bJ (i+1)=bJ i*bJ i:=by unfold bJ;rw[Nat.pow_succ,Nat.mul_comm,Nat.two_mul,Int.pow_add]
theorem He{i j:Nat}(h:i≤j):bJ i≤bJ j:=by
 induction h with
 |refl=>exact Int.le_refl _
 |step _ ih=>
  rename_i j _
  rw[xZ]
  have h1:=pO j
  have:=Int.mul_le_mul_of_nonneg_left (show 1≤bJ j by omega) (Int.le_of_lt h1)
  omega
def adD:Nat→Nat→List UInt8
 |0,n=>Lib.repeatL [48] (19-(Lib.decDigits n).length)++Lib.decDigits n
 |j+1,n=>adD j (n/(bJ j).toNat)++adD j (n%(bJ j).toNat)
def bc(l:List UInt8):List Value:=l.map fun b=>Value.int .u8 (b.toNat:Int)
theorem Qo(l m:List UInt8):bc (l++m)=bc l++bc m:=List.map_append
theorem Jh(l:List UInt8):Lib.strCells ⟨l.toArray⟩=bc l:=by simp[Lib.strCells,bc]
structure Fr(B:Nat)(w w':World):Prop where
 below:Below B w w'
 keep: ∀k,k<w.heap.size→(∀c f,w.heap[k]?≠some (.cells c 5 f))→w'.heap[k]?=w.heap[k]?
theorem Fr.trans{B:Nat}{a b c:World}(h:Fr B a b)(k:Fr B b c):Fr B a c:=
 ⟨h.below.trans k.below,fun i hi hn=>by
  have e:=h.keep i hi hn
  rw[k.keep i (Nat.lt_of_lt_of_le hi h.below.size) (by rw[e];exact hn),e]⟩
theorem Fr.of_below{B:Nat}{w w':World}(h:Below w.heap.size w w')(hB:B≤w.heap.size):Fr B w w':=⟨h.mono hB,fun k hk _=>h.block k hk⟩
theorem Fr.WT{B:Nat}{w w':World}{v:Value}{n:Nat}{xs:List Value}(h:w.ownsRow B 5 1 v n xs)(hg:w.grownBy w' v.ownBlock)(hB:B≤w.heap.size):Fr B w w':=
 ⟨Below.grown (Below.refl B w) hg hB (fun k hk=>(h.lt k hk).1),fun k hk hn=>by
  refine hg.block k hk (fun e=>?_)
  rcases h.2 with⟨rfl,_⟩|⟨g,cap,cur,rfl,_,hh,_⟩
  ·cases e
  ·injection e with e
   subst e
   exact hn _ _ hh⟩
theorem Ns.fr{B:Nat}{w w':World}{b off cap:Nat}{zs:List Int}{n:Int}(h:Ns w b off cap zs n)(hf:Fr B w w'):Ns w' b off cap zs n:=by
 obtain⟨c,f,hb⟩:=h.ty
 have e:=hf.keep b h.lt (by rw[hb];intro c' f' hc;injection hc with hc;injection hc with _ hc _;exact absurd hc (by decide))
 refine{h with row:=fun i hi=>?_,lt:=Nat.lt_of_lt_of_le h.lt hf.below.size,ty:=⟨c,f,by rw[e];exact hb⟩}
 have:=h.row i hi
 rwa [←World.cell?_of_block (w':=w') (a:=⟨b,off+i,none⟩) e]at this
theorem Nt.fr{B:Nat}{w w':World}{v:Value}{n:Int}(h:Nt w v n)(hf:Fr B w w'):Nt w' v n:=by
 rcases h with h|⟨b,off,cap,zs,e,h⟩
 ·exact .inl h
 ·exact .inr ⟨b,off,cap,zs,e,h.fr hf⟩
theorem MO{B:Nat}{w w':World}{v:Value}{n:Nat}{xs:List Value}(h:w.ownsRow B 5 1 v n xs)(hb:Below w.heap.size w w'):w'.ownsRow B 5 1 v n xs:=by
 refine⟨h.1,?_⟩
 rcases h.2 with hn|⟨g,cap,cur,rfl,hg,hh,r⟩
 ·exact .inl hn
 ·exact .inr ⟨g,cap,cur,rfl,hg,by rw[hb.block g (Array.getElem?_eq_some_iff.1 hh).1];exact hh,r⟩
def Un(w:World)(v:Value)(j:Nat):Prop:=
 (v=.slice none 0 0∧j=0)∨ ∃g cap c f,v=.slice (some ⟨g,0,none⟩) j cap∧j≤cap∧w.heap[g]?=some (.cells c 43 f)∧ ∀i,i<j→ ∃u,c[i]?=some u∧Nt w u (bJ i)
theorem Un.fr{B:Nat}{w w':World}{v:Value}{j:Nat}(h:Un w v j)(hf:Fr B w w'):Un w' v j:=by
 rcases h with h|⟨g,cap,c,f,rfl,hc,hg,hu⟩
 ·exact .inl h
 ·refine .inr ⟨g,cap,c,f,rfl,hc,?_,fun i hi=>?_⟩
  ·rw[hf.keep g (Array.getElem?_eq_some_iff.1 hg).1 (by rw[hg];intro c' f' hc;injection hc with hc;injection hc with _ hc _;exact absurd hc (by decide))]
   exact hg
  ·obtain⟨u,h1,h2⟩:=hu i hi
   exact⟨u,h1,h2.fr hf⟩
theorem acz(c:Nat):(Lib.repeatL [(48:UInt8)] c).length=c:=by rw[Lib.repeatL_length];simp
def af6(w:World)(B k:Nat)(xs:List Value)(e:Ending)(w':World):Prop:= ∃vo,e=.returned vo∧w'.ownsRow B 5 1 vo k xs∧Fr B w w'
theorem awD:(prog.info? 5).map (fun i=>(i.zero,i.size,i.bytes))=some (some (.int .u8 0),1,1):=by kernel_rfl
theorem uN(k:Nat): ∀n:Nat,n<10^(k+1)→Lib.nDigits n≤k+1:=by
 induction k with
 |zero=>intro n h;rw[Lib.nDigits_small (by simpa using h)];exact Nat.le_refl _
 |succ k ih=>
  intro n h
  by_cases h10:n<10
  ·rw[Lib.nDigits_small h10];omega
  ·rw[Lib.nDigits_big h10]
   have:=ih (n/10) (by rw[Nat.div_lt_iff_lt_mul (by omega)];rw[Nat.pow_succ]at h;exact h)
   omega
theorem apT(w:World)(B:Nat)(hB:B≤w.heap.size)(hP: ∀w',Below B w w'→uS w')(vn:Value)(n:Nat)(hn:Nt w vn n)(hlt:(n:Int)<bJ 0)(vo:Value)(k:Nat)(xs:List Value)
 (ho:w.ownsRow B 5 1 vo k xs) (hk:k+19≤100000) (vu:Value) (hu:Un w vu 0):
 Calls prog 182 #[vn,vo,vu] w (af6 w B (k+19) (xs++bc (adD 0 n))):=by
 rw[Cj]at hlt
 have hd:(Lib.decDigits n).length≤19:=by
  rw[Lib.decDigits_length]
  exact uN 18 n (by omega)
 obtain⟨bu,cu,rfl⟩: ∃bu cu,vu=.slice bu 0 cu:=by
  rcases hu with⟨rfl,_⟩|⟨g,cap,c,f,rfl,_⟩<;>exact⟨_,_,rfl⟩
 obtain⟨ob,ol,oc,rfl⟩: ∃a b c,vo=.slice a b c:=by
  rcases ho.2 with⟨rfl,_⟩|⟨g,cap,cur,rfl,_⟩<;>exact⟨_,_,_,rfl⟩
 have HW:=h_ (ajO hn (show(n:Int)<18446744073709551616 by omega) w (Below.refl _ _))
 have HF:=h_ (Xm w n (by omega) (hP w (Below.refl _ _)))
 have HO:=h_ ho
 clear hn hu ho
 go_enter func182,ntmps182
 go_wp2_with fail
 refine HW.out.mono ?_
 rintro e w ⟨rfl,rfl⟩
 go_wp2_with fail
 refine HF.out.mono ?_
 rintro e w1 ⟨rfl,hb1⟩
 have HB1:=h_ hb1
 clear hb1
 generalize hD:Lib.decDigits n=D at hd⊢
 have hsz:(⟨D.toArray⟩:ByteArray).size=D.length:=by simp[ByteArray.size]
 have hwr:IntKind.i64.wrap (19-(D.length:Int))=((19-D.length:Nat):Int):=by rw[IntWalk.i64_in _ (by omega)];omega
 obtain⟨i0,hi,hz0,hz1,hz2⟩:=info_parts awD
 have hii:=h_ hi
 go_wp2_with fail
 refine(aa0 w1 [48] (19-D.length) (by omega) (by simp)).mono ?_
 rintro e w2 ⟨rfl,hb2⟩
 have HB2:Hid (Below w.heap.size w w2):=h_ (HB1.out.trans (hb2.mono HB1.out.size))
 have Lj:=h_ (MO HO.out HB2.out)
 have HZ2:=h_ (HB2.out.size)
 clear hb2
 generalize hR:Lib.repeatL [48] (19-D.length)=R
 have hRl:R.length=19-D.length:=by rw[←hR,acz]
 have JY:(⟨R.toArray⟩:ByteArray).size=R.length:=by simp[ByteArray.size]
 have HR:=h_ (And.intro hR (And.intro hRl JY))
 have HDD:=h_ (And.intro hD (And.intro hsz hwr))
 clear hR hRl JY hD hsz hwr hi
 go_wp2_with (at_builtin;refine Hid.out ?_)
 refine h_ ?_
 have HRS:R.length≤19:=by have:=HR.out.2.1;omega
 have JY:=HR.out.2.2
 refine Lib.wpList_append_own_string w2 rfl (.tmp 17) (.tmp 21) 196 9 rfl B 5 i0 underlying196 underlying9 hii.out hz0 hz1 hz2 _ k xs rfl Lj.out ⟨R.toArray⟩ rfl (by rw[JY];unfold maxLen;omega) (by rw[JY];omega) (by have:=HZ2.out;omega) ?_
 intro v1 w3 hown3 auE hnil3
 have HF3:Hid (Fr B w w3):=h_ ((Fr.of_below HB2.out hB).trans (Fr.WT Lj.out auE (by have:=HZ2.out;omega)))
 have HZ3:Hid (B≤w3.heap.size):=h_ (by have:=HF3.out.below.size;omega)
 rw[JY,Jh]at hown3
 have HO3:=h_ hown3
 obtain⟨ob1,ol1,oc1,rfl⟩: ∃a b c,v1=.slice a b c:=by
  rcases hown3.2 with⟨rfl,_⟩|⟨g,cap,cur,rfl,_⟩<;>exact⟨_,_,_,rfl⟩
 clear hown3 auE hnil3 JY
 go_wp2_with (at_builtin;refine Hid.out ?_)
 refine h_ ?_
 have acA:=HDD.out.2.1
 refine Lib.wpList_append_own_string w3 rfl (.tmp 23) (.tmp 24) 196 9 rfl B 5 i0 underlying196 underlying9 hii.out hz0 hz1 hz2 _ (k+R.length) (xs++bc R) rfl HO3.out ⟨D.toArray⟩ rfl (by rw[acA];unfold maxLen;omega) (by rw[acA];omega) HZ3.out ?_
 intro v2 w4 hown4 auG awE
 have HF4:Hid (Fr B w w4):=h_ (HF3.out.trans (Fr.WT HO3.out auG HZ3.out))
 rw[acA,Jh]at hown4
 have HO4:=h_ hown4
 obtain⟨ob2,ol2,oc2,rfl⟩: ∃a b c,v2=.slice a b c:=by
  rcases hown4.2 with⟨rfl,_⟩|⟨g,cap,cur,rfl,_⟩<;>exact⟨_,_,_,rfl⟩
 clear hown4 auG awE acA
 go_wp2_with fail
 go_ret
 refine⟨_,rfl,?_,HF4.out⟩
 have e1:bc (adD 0 n)=bc R++bc D:=by unfold adD;rw[HDD.out.1,HR.out.1,Qo]
 have e2:k+19=k+R.length+D.length:=by have:=HR.out.2.1;omega
 rw[e1,e2,←List.append_assoc]
 exact HO4.out
theorem MP(i:Nat):bJ i≤pw^(2^i):=by
 induction i with
 |zero=>rw[Cj,Nat.pow_zero,Int.pow_succ,Int.pow_zero,Int.one_mul];decide
 |succ i ih=>
  rw[xZ,Nat.pow_succ,Nat.mul_comm,Nat.two_mul,Int.pow_add]
  have h0:=pO i
  exact Int.mul_le_mul ih ih (by omega) (by omega)
theorem DR{a b:Nat}(h:a≤b):(2:Int)^a≤2^b:=by
 obtain⟨d,rfl⟩:=Nat.exists_eq_add_of_le h
 rw[Int.pow_add]
 have:=Int.mul_le_mul_of_nonneg_left (show(1:Int)≤2^d from au d) (Int.le_of_lt (au a))
 omega
theorem wK{i:Nat}(h:i≤8):bJ i<big:=by
 have h1:=He h
 have h2:=MP 8
 have h3:pw^(2^8)=2^(64*2^8):=lI _
 have h4:big=2^64000:=by unfold big;rw[lI]
 have h5:(2:Int)^(64*2^8)*2≤2^64000:=by rw[←Int.pow_succ];exact DR (by omega)
 have h6:=au (64*2^8)
 omega
theorem auI(j:Nat): ∀(w:World) (B:Nat) (hB:B≤w.heap.size) (hP: ∀w',Below B w w'→uS w') (vn:Value) (n:Nat) (hn:Nt w vn n) (hlt:(n:Int)<bJ j) (vo:Value) (k:Nat) (xs:List Value)
 (ho:w.ownsRow B 5 1 vo k xs) (hk:k+19*2^j≤100000) (vu:Value) (hu:Un w vu j) (hj:j≤8),
 Calls prog 182 #[vn,vo,vu] w (af6 w B (k+19*2^j) (xs++bc (adD j n))):=by
 induction j with
 |zero=>intro w B hB hP vn n hn hlt vo k xs ho hk vu hu hj;exact apT w B hB hP vn n hn hlt vo k xs ho (by simpa using hk) vu hu
 |succ j ih=>
  intro w B hB hP vn n hn hlt vo k xs ho hk vu hu hj
  obtain⟨g,cap,c,f,rfl,hcap,hg,hcu⟩: ∃g cap c f,vu=.slice (some ⟨g,0,none⟩) (j+1) cap∧j+1≤cap∧w.heap[g]?=some (.cells c 43 f)∧ ∀i,i<j+1→ ∃u,c[i]?=some u∧Nt w u (bJ i):=by
   rcases hu with⟨_,h⟩|h
   ·omega
   ·exact h
  have hu':Un w (.slice (some ⟨g,0,none⟩) j cap) j:=.inr ⟨g,cap,c,f,rfl,by omega,hg,fun i hi=>hcu i (by omega)⟩
  obtain⟨u,hc,hU⟩:=hcu j (by omega)
  have hup:=pO j
  obtain⟨ub,uo,uc,uz,rfl,_⟩:=hU.pos (by omega)
  obtain⟨nb,nl,nc,rfl⟩:=hn.shape
  obtain⟨ob,ol,oc,rfl⟩: ∃a b c,vo=.slice a b c:=by
   rcases ho.2 with⟨rfl,_⟩|⟨g,cap,cur,rfl,_⟩<;>exact⟨_,_,_,rfl⟩
  have hcell:w.cell? ⟨g,j,none⟩=some (.slice (some ⟨ub,uo,none⟩) uz.length uc):=by
   unfold World.cell?
   simp[hg,hc]
  have hb1:=wK (show j≤8 by omega)
  have hb2:=wK (show j+1≤8 by omega)
  have HDV:=h_ (uO w _ _ n (bJ j) hn hU (by omega) hb1 (by omega) hup)
  have HIH:=h_ ih
  have HPP:=h_ hP
  have HO:=h_ ho
  have HU:=h_ hu'
  have HB:=h_ hB
  have HL:=h_ hlt
  have HK:=h_ hk
  clear ih hP ho hu' hu hB hlt hk hn hU hcu hg hc hb1 hb2 hup
  have hwj:IntKind.i64.wrap ((j:Int)+1-1)=(j:Int):=by rw[IntWalk.i64_in _ (by omega)];omega
  have hj1:((j+1:Nat):Int)=(j:Int)+1:=by omega
  have hcl:j≤cap:=by omega
  go_enter func182,ntmps182
  go_wp2_with fail
  refine HDV.out.mono ?_
  rintro e w1 ⟨v1,v2,rfl,h1,h2,hb1⟩
  have HB1:=h_ hb1
  have HZ1:Hid (B≤w1.heap.size):=h_ (by have:=HB.out;have:=hb1.size;omega)
  have HF1:Hid (Fr B w w1):=h_ (Fr.of_below hb1 HB.out)
  have hup:=pO j
  have hq0:(0:Int)≤(n:Int)/bJ j:=Int.ediv_nonneg (by omega) (by omega)
  have hr0:(0:Int)≤(n:Int)%bJ j:=Int.emod_nonneg _ (by omega)
  have hr1:(n:Int)%bJ j<bJ j:=Int.emod_lt_of_pos _ hup
  have hq1:(n:Int)/bJ j<bJ j:=by
   rw[Int.ediv_lt_iff_lt_mul hup,←xZ];exact HL.out
  obtain⟨q,hq⟩: ∃q:Nat,(n:Int)/bJ j=q:=⟨((n:Int)/bJ j).toNat,by omega⟩
  obtain⟨r,hr⟩: ∃r:Nat,(n:Int)%bJ j=r:=⟨((n:Int)%bJ j).toNat,by omega⟩
  rw[hq]at h1 hq1
  rw[hr]at h2 hr1
  have HQ:Hid (n/(bJ j).toNat=q∧n%(bJ j).toNat=r):=h_ (by
   have e:((bJ j).toNat:Int)=bJ j:=by omega
   constructor
   ·have h:=Int.natCast_ediv n (bJ j).toNat;rw[e,hq]at h;omega
   ·have h:=Int.natCast_emod n (bJ j).toNat;rw[e,hr]at h;omega)
  have HC1:=h_ (HIH.out w1 B HZ1.out (fun w' hb=>HPP.out w' (HF1.out.below.trans hb)) v1 q h1 hq1 (.slice ob ol oc) k xs (MO HO.out hb1) (by have:=HK.out;rw[Nat.pow_succ]at this;omega) _ (HU.out.fr HF1.out) (by omega))
  have H2:=h_ (And.intro h2 hr1)
  obtain⟨b1,l1,c1,rfl⟩:=h1.shape
  obtain⟨b2,l2,c2,rfl⟩:=h2.shape
  clear hb1 h1 h2 hq0 hr0 hr1 hq1 hq hr hup hcell
  go_wp2_with fail
  refine HC1.out.mono ?_
  rintro e w2 ⟨vo1,rfl,ho1,hf1⟩
  have HF2:Hid (Fr B w w2):=h_ (HF1.out.trans hf1)
  have HZ2:Hid (B≤w2.heap.size):=h_ (by have:=HF2.out.below.size;have:=HB.out;omega)
  have HC2:=h_ (HIH.out w2 B HZ2.out (fun w' hb=>HPP.out w' (HF2.out.below.trans hb)) _ r (H2.out.1.fr hf1) H2.out.2 vo1 _ _ ho1 (by have:=HK.out;rw[Nat.pow_succ]at this;omega) _ (HU.out.fr HF2.out) (by omega))
  obtain⟨ob1,ol1,oc1,rfl⟩: ∃a b c,vo1=.slice a b c:=by
   rcases ho1.2 with⟨rfl,_⟩|⟨g,cap,cur,rfl,_⟩<;>exact⟨_,_,_,rfl⟩
  clear ho1 hf1
  go_wp2_with fail
  refine HC2.out.mono ?_
  rintro e w3 ⟨vo2,rfl,ho2,hf2⟩
  have HO3:=h_ (And.intro ho2 (HF2.out.trans hf2))
  obtain⟨ob2,ol2,oc2,rfl⟩: ∃a b c,vo2=.slice a b c:=by
   rcases ho2.2 with⟨rfl,_⟩|⟨g,cap,cur,rfl,_⟩<;>exact⟨_,_,_,rfl⟩
  clear ho2 hf2
  go_wp2_with fail
  go_ret
  refine⟨_,rfl,?_,HO3.out.2⟩
  have e1:bc (adD (j+1) n)=bc (adD j q)++bc (adD j r):=by
   rw[←Qo,←HQ.out.1,←HQ.out.2];rfl
  have e2:k+19*2^(j+1)=k+19*2^j+19*2^j:=by rw[Nat.pow_succ];omega
  rw[e1,e2,←List.append_assoc]
  exact HO3.out.1
end Go.Proofs.YtnapiakfbihnjaaGreatDoor
namespace Go.Proofs.YtnapiakfbihnjaaGreatDoor
open Go.RowKit Go.Shelf
def qi:Nat→Nat→List UInt8
 |0,_=>[]
 |k+1,n=>Lib.dg n k::qi k n
theorem aaC(k n:Nat):qi k n=(List.range k).map fun t=>Lib.dg n (k-1-t):=by
 induction k with
 |zero=>rfl
 |succ k ih=>
  rw[List.range_succ_eq_map,List.map_cons,List.map_map,qi,ih]
  congr 1
  apply List.map_congr_left
  intro t ht
  simp only[Function.comp]
  congr 1
  have:=List.mem_range.1 ht
  omega
theorem yt(n:Nat):Lib.decDigits n=qi (Lib.nDigits n) n:=by rw[aaC,Lib.decDigits_eq]
theorem anE{n k:Nat}(h:n<10^k):Lib.dg n k=48:=by unfold Lib.dg;rw[Nat.div_eq_of_lt h];rfl
theorem aqr(n b t:Nat)(h:t<b):Lib.dg (n%10^b) t=Lib.dg n t:=by
 unfold Lib.dg
 congr 2
 obtain⟨d,rfl⟩: ∃d,b=t+(d+1):=⟨b-t-1,by omega⟩
 rw[Nat.pow_add,Nat.mod_mul_right_div_self,Nat.pow_succ,Nat.mul_comm (10^d) 10,Nat.mod_mul_right_mod]
theorem anF(n b t:Nat):Lib.dg n (t+b)=Lib.dg (n/10^b) t:=by
 unfold Lib.dg
 rw[Nat.pow_add,Nat.mul_comm,Nat.div_div_eq_div_mul]
theorem aha(b:Nat)(n:Nat): ∀k,k≤b→qi k (n%10^b)=qi k n:=by
 intro k
 induction k with
 |zero=>intro _;rfl
 |succ k ih=>intro h;rw[qi,qi,ih (by omega),aqr n b k (by omega)]
theorem aaE(a b n:Nat):qi (a+b) n=qi a (n/10^b)++qi b (n%10^b):=by
 rw[aha b n b (Nat.le_refl _)]
 induction a with
 |zero=>rw[Nat.zero_add];rfl
 |succ a ih=>rw[show a+1+b=a+b+1 by omega,qi,qi,ih,anF];rfl
theorem Le(b n:Nat)(h:n<10^b): ∀c,qi (c+b) n=List.replicate c 48++qi b n:=by
 intro c
 induction c with
 |zero=>rw[Nat.zero_add];rfl
 |succ c ih=>
  have h2:10^b≤10^(c+b):=Nat.pow_le_pow_right (by omega) (by omega)
  rw[show c+1+b=c+b+1 by omega,qi,ih,anE (by omega)];rfl
theorem Xk(c:Nat):Lib.repeatL [(48:UInt8)] c=List.replicate c 48:=by
 induction c with
 |zero=>rfl
 |succ c ih=>rw[Lib.repeatL,ih];rfl
theorem Jy(j:Nat):(bJ j).toNat=10^(19*2^j):=by
 have h:bJ j=((10^(19*2^j):Nat):Int):=by
  have e:(10000000000000000000:Int)=((10^19:Nat):Int):=rfl
  unfold bJ
  rw[e,Nat.pow_mul]
  exact(Int.natCast_pow (10^19) (2^j)).symm
 rw[h,Int.toNat_natCast]
theorem anG(j:Nat): ∀n,n<10^(19*2^j)→adD j n=qi (19*2^j) n:=by
 induction j with
 |zero=>
  intro n h
  rw[Nat.pow_zero,Nat.mul_one]at h⊢
  have h1:=uN 18 n h
  have h2:=Le (Lib.nDigits n) n (Lib.lt_pow_nDigits n) (19-Lib.nDigits n)
  rw[show 19-Lib.nDigits n+Lib.nDigits n=19 by omega]at h2
  rw[h2,adD,Xk,Lib.decDigits_length,yt]
 |succ j ih=>
  intro n h
  have e:19*2^(j+1)=19*2^j+19*2^j:=by rw[Nat.pow_succ];omega
  rw[e]at h⊢
  rw[Nat.pow_add]at h
  have hp:0<10^(19*2^j):=Nat.pow_pos (by omega)
  rw[aaE,adD,Jy,ih _ (by rw[Nat.div_lt_iff_lt_mul hp];exact h),ih _ (Nat.mod_lt _ hp)]
theorem ahb{n k:Nat}(h1:10^k≤n)(h2:n<10^(k+1)):Lib.dg n k≠48:=by
 have hp:0<10^k:=Nat.pow_pos (by omega)
 have a1:1≤n/10^k:=(Nat.le_div_iff_mul_le hp).2 (by omega)
 have a2:n/10^k<10:=by rw[Nat.div_lt_iff_lt_mul hp];rw[Nat.pow_succ]at h2;omega
 unfold Lib.dg
 rw[Nat.mod_eq_of_lt a2]
 intro hc
 have:=congrArg UInt8.toNat hc
 simp at this
 omega
theorem Nw{n:Nat}(h:0<n):10^(Lib.nDigits n-1)≤n:=by
 apply Classical.byContradiction
 intro hc
 have hp:=Lib.nDigits_pos n
 by_cases h1:Lib.nDigits n=1
 ·rw[h1]at hc;simp at hc;omega
 ·have:=uN (Lib.nDigits n-1-1) n (by rw[show Lib.nDigits n-1-1+1=Lib.nDigits n-1 by omega];omega)
  omega
theorem anI{j n:Nat}(h0:0<n)(h:n<10^(19*2^j)):Lib.trimLeftB (adD j n) 48=Lib.decDigits n:=by
 rw[anG j n h]
 have hl:Lib.nDigits n≤19*2^j:=by
  have hp:0<2^j:=Nat.pow_pos (by omega)
  have:=uN (19*2^j-1) n (by rw[show 19*2^j-1+1=19*2^j by omega];exact h)
  omega
 have h2:=Le (Lib.nDigits n) n (Lib.lt_pow_nDigits n) (19*2^j-Lib.nDigits n)
 rw[show 19*2^j-Lib.nDigits n+Lib.nDigits n=19*2^j by omega]at h2
 rw[h2,←yt]
 have hd:(Lib.decDigits n).dropWhile (·==(48:UInt8))=Lib.decDigits n:=by
  rw[yt]
  have hp:=Lib.nDigits_pos n
  have hf:=ahb (Nw h0) (by rw[show Lib.nDigits n-1+1=Lib.nDigits n by omega];exact Lib.lt_pow_nDigits n)
  generalize Lib.nDigits n=k at*
  obtain⟨k,rfl⟩: ∃m,k=m+1:=⟨k-1,by omega⟩
  rw[Nat.add_sub_cancel]at hf
  rw[qi,List.dropWhile_cons_of_neg]
  simpa using hf
 unfold Lib.trimLeftB
 generalize 19*2^j-Lib.nDigits n=c
 induction c with
 |zero=>simpa using hd
 |succ c ih=>rw[List.replicate_succ,List.cons_append,List.dropWhile_cons_of_pos (by rfl)];exact ih
end Go.Proofs.YtnapiakfbihnjaaGreatDoor
namespace Go.Proofs.YtnapiakfbihnjaaGreatDoor
open Go.RowKit Go.Shelf Tryz
attribute [local go_sem] fQ dP
def sliceLen:Value→Nat
 |.slice _ n _=>n
 |_=>0
theorem awF:(prog.info? 43).map (fun i=>(i.zero,i.size,i.bytes))=some (some (.slice none 0 0),1,24):=by kernel_rfl
theorem Qp{w:World}{B:Nat}{e:TypeId}{v:Value}{n:Nat}{xs:List Value}(h:w.ownsRow B e 1 v n xs): ∃b c,v=.slice b n c:=by
 rcases h.2 with⟨rfl,rfl⟩|⟨_,_,_,rfl,_⟩<;>exact⟨_,_,rfl⟩
theorem Nt.auK{w w':World}{v vo:Value}{n:Int}{B k:Nat}{xs:List Value}(h:Nt w v n)(ho:w.ownsRow B 43 1 vo k xs)(hg:w.grownBy w' vo.ownBlock):Nt w' v n:=by
 rcases h with h|⟨b,off,cap,zs,e,h⟩
 ·exact .inl h
 ·obtain⟨c,f,hb⟩:=h.ty
  have eb:w'.heap[b]?=w.heap[b]?:=by
   refine hg.block b h.lt (fun e=>?_)
   rcases ho.2 with⟨rfl,_⟩|⟨g,cap,cur,rfl,_,hh,_⟩
   ·cases e
   ·injection e with e
    subst e
    rw[hb]at hh
    injection hh with hh
    injection hh with _ hh _
    exact absurd hh (by decide)
  refine .inr ⟨b,off,cap,zs,e,{h with row:=fun i hi=>?_,lt:=Nat.lt_of_lt_of_le h.lt hg.size,ty:=⟨c,f,by rw[eb];exact hb⟩}⟩
  have:=h.row i hi
  rwa [←World.cell?_of_block (w':=w') (a:=⟨b,off+i,none⟩) eb]at this
theorem MQ{B:Nat}{w w':World}{v:Value}{n:Nat}{xs:List Value}(h:w.ownsRow B 43 1 v n xs)(hb:Below w.heap.size w w'):w'.ownsRow B 43 1 v n xs:=by
 refine⟨h.1,?_⟩
 rcases h.2 with hn|⟨g,cap,cur,rfl,hg,hh,r⟩
 ·exact .inl hn
 ·exact .inr ⟨g,cap,cur,rfl,hg,by rw[hb.block g (Array.getElem?_eq_some_iff.1 hh).1];exact hh,r⟩
def Us(w:World)(us:List Value):Prop:= ∀t,t<us.length→ ∃u,us[t]?=some u∧Nt w u (bJ t)
theorem Us.un{w:World}{B:Nat}{v:Value}{us:List Value}(ho:w.ownsRow B 43 1 v us.length us)(h:Us w us):Un w v us.length:=by
 rcases ho.2 with⟨rfl,h0⟩|⟨g,cap,cur,rfl,_,hg,hc,_,_,ht⟩
 ·exact .inl ⟨rfl,h0⟩
 ·refine .inr ⟨g,cap,cur,_,rfl,hc,hg,fun i hi=>?_⟩
  obtain⟨u,h1,h2⟩:=h i hi
  refine⟨u,?_,h2⟩
  rw[←ht,List.getElem?_take,if_pos (by omega)]at h1
  simpa using h1
theorem apU{i:Nat}(h:i≤5):bJ i<pw^39:=by
 have h1:=He h
 have h2:=MP 5
 have h3:pw^(2^5)<pw^39:=by
  rw[lI,lI]
  have h5:(2:Int)^(64*2^5)*2≤2^(64*39):=by rw[←Int.pow_succ];exact DR (by omega)
  have h6:=au (64*2^5)
  omega
 omega
theorem ajf(w:World)(v:Value)(i:Nat)(hi:i≤5)(h:Nt w v (bJ i)):Calls prog 180 #[v,v] w (bf w (bJ (i+1))):=by
 have hp:=pO i
 obtain⟨b,off,cap,zs,rfl,hN⟩:=h.pos (by omega)
 have hb:=wK (show i≤8 by omega)
 rw[xZ]
 exact Gz w b off cap zs _ b off cap zs _ hN hN hb hb (.inl (by
  have:=iI hN.wd hN.can hN.val (apU hi)
  omega))
theorem MR(w:World)(hP:uS w)(vn:Value)(n:Nat)(hn:Nt w vn n)(h0:0<n)(hlt:(n:Int)<bJ 6):
 Calls prog 113 #[vn] w (wu w (Lib.decDigits n)):=by
 have hP': ∀w',Below w.heap.size w w'→uS w':=sU hP
 have HP:=h_ hP'
 have HN:=h_ hn
 have HL:=h_ hlt
 have H0:=h_ h0
 obtain⟨nb,nl,nc,rfl⟩:=hn.shape
 have HU0:=h_ (qQ w 10000000000000000000 (by decide) (by decide))
 obtain⟨i0,hi,hz0,hz1,hz2⟩:=info_parts awF
 have hii:=h_ hi
 clear hP hP' hn hlt h0 hi
 go_enter func113,ntmps113
 go_wp2_with fail
 refine HU0.out.mono ?_
 rintro e w0 ⟨v0,rfl,hv0,hb0⟩
 rw[←Cj]at hv0
 have HV0:=h_ (And.intro hv0 hb0)
 obtain⟨ub,ul,uc,rfl⟩:=hv0.shape
 clear hv0 hb0
 go_wp2_with fail
 go_loopw [3,4] (fun v3 v4 wr=> ∃(us:List Value),us.length≤6∧Hid (wr.ownsRow w.heap.size 43 1 v3 us.length us∧Us wr us∧Nt wr v4 (bJ us.length)∧Below w.heap.size w wr∧(0<us.length→bJ (us.length-1)≤n)))
  (fun v3 _ _=>10-sliceLen v3)
 case atStart=>exact⟨[],by simp,h_ ⟨World.ownsRow_nil _ _ _ _,fun t ht=>by simp at ht,HV0.out.1,HV0.out.2,by simp⟩⟩
 case round=>
  obtain⟨us,hl,hr⟩:=hrel
  obtain⟨ho,hus,hv4,hB,hle⟩:=hr.out
  obtain⟨b4,l4,c4,rfl⟩:=hv4.shape
  obtain⟨b3,c3,rfl⟩:=Qp ho
  have HC:=h_ (rE wr _ _ _ _ hv4 (HN.out.below hB) (wK (by omega)) (by have:=wK (show 6≤8 by omega);have:=HL.out;omega))
  have HR:=hr
  by_cases hc:bJ us.length≤n
  ·have hcI:bW (bJ us.length) n≤0:=by unfold bW;split<;>(try split)<;>omega
   have hi5:us.length≤5:=by
    apply Classical.byContradiction
    intro h6
    have:=He (show 6≤us.length by omega)
    have:=HL.out
    omega
   have HLE:=h_ hc
   generalize bW (bJ us.length) n=cv at HC hcI
   clear hr ho hus hv4 hB hle hc
   go_wp2_with fail
   refine HC.out.mono ?_
   rintro e w1 ⟨rfl,hd⟩
   have HB1:Hid (Below wr.heap.size wr w1):=h_ (hd.below _)
   have HO1:=h_ (MQ HR.out.1 HB1.out)
   have HZ1:Hid (w.heap.size≤w1.heap.size):=h_ (by have:=HR.out.2.2.2.1.size;have:=HB1.out.size;omega)
   clear hd
   go_wp2_with (at_builtin;refine Hid.out ?_)
   refine h_ ?_
   refine wpList_append_own _ rfl (.tmp 13) (.tmp 15) 192 rfl w.heap.size 43 i0 (.slice none 0 0) 1 24 underlying192 hii.out hz0 hz1 hz2 rfl (by decide) _ us.length us rfl (HO1.out.alloc _) ⟨w1.heap.size,0,none⟩ 1 1 [.slice b4 l4 c4] rfl rfl (by intro t u ht;match t,ht with|0,ht=>simp at ht;subst ht;simp[Addr.add,go_sem]) (by intro u hu;simp at hu;subst hu;rfl) (by unfold maxLen;omega) (by omega) (by have:=HZ1.out;simp;omega) ?_
   intro v2 w2 hown2 hgrow2 hnil
   have hown3:w2.ownsRow w.heap.size 43 1 v2 (us++[Value.slice b4 l4 c4]).length (us++[Value.slice b4 l4 c4]):=by simpa using hown2
   have HFN:Hid (∀v n,Nt wr v n→Nt w2 v n):=h_ (fun v n h=>Nt.auK ((h.below HB1.out).below ((Below.refl _ _).alloc (Nat.le_refl _) _)) (HO1.out.alloc _) hgrow2)
   have HB2:Hid (Below w.heap.size w w2):=h_ (((HR.out.2.2.2.1.trans (HB1.out.mono HR.out.2.2.2.1.size)).alloc HZ1.out _).grown hgrow2 (by have:=HZ1.out;simp;omega) (fun k hk=>by
    have:=HO1.out.lt k hk
    exact this.1))
   have HU2:Hid (Us w2 (us++[Value.slice b4 l4 c4])):=h_ (fun t ht=>by
    by_cases h:t<us.length
    ·obtain⟨u,h1,h2⟩:=HR.out.2.1 t h
     exact⟨u,by rw[List.getElem?_append_left h];exact h1,HFN.out _ _ h2⟩
    ·have e:t=us.length:=by simp at ht;omega
     subst e
     exact⟨_,by simp,HFN.out _ _ HR.out.2.2.1⟩)
   have HM:=h_ (ajf w2 _ us.length hi5 (HFN.out _ _ HR.out.2.2.1))
   have Lj:=h_ hown3
   obtain⟨b5,c5,rfl⟩:=Qp hown3
   clear hown2 hown3 hgrow2 hnil
   go_wp2_with fail
   refine HM.out.mono ?_
   rintro e w3 ⟨v3,rfl,hv3,hb3⟩
   have H3:=h_ (And.intro hv3 hb3)
   obtain⟨b6,l6,c6,rfl⟩:=hv3.shape
   clear hv3 hb3
   go_wp2_with fail
   go_roundw
   case rel=>
    refine⟨us++[Value.slice b4 l4 c4],by simp;omega,h_ ⟨by have:=MQ Lj.out H3.out.2;simpa using this,fun t ht=>?_,by simpa using H3.out.1,HB2.out.trans (H3.out.2.mono HB2.out.size),fun _=>by simpa using HLE.out⟩⟩
    obtain⟨u,h1,h2⟩:=HU2.out t ht
    exact⟨u,h1,h2.below H3.out.2⟩
   case measure=>simp[sliceLen]<;>omega
  ·have hcI: ¬bW (bJ us.length) n≤0:=by unfold bW;rw[if_neg (by omega),if_pos (by omega)];omega
   have HLT:Hid ((n:Int)<bJ us.length):=h_ (by omega)
   generalize bW (bJ us.length) n=cv at HC hcI
   clear hr ho hus hv4 hB hle hc
   go_wp2_with fail
   refine HC.out.mono ?_
   rintro e w1 ⟨rfl,hd⟩
   have HB1:Hid (Below wr.heap.size wr w1):=h_ (hd.below _)
   have HB0:Hid (Below w.heap.size w w1):=h_ (HR.out.2.2.2.1.trans (HB1.out.mono HR.out.2.2.2.1.size))
   have hp6:2^us.length≤64:=Nat.pow_le_pow_right (by omega) hl
   have HA:=h_ (auI us.length w1 w1.heap.size (Nat.le_refl _) (sU (HP.out w1 HB0.out)) _ n (HN.out.below HB0.out) HLT.out (.slice none 0 0) 0 [] (World.ownsRow_nil _ _ _ _) (by omega) _ ((Us.un HR.out.1 HR.out.2.1).fr (Fr.of_below HB1.out (Nat.le_refl _))) (by omega))
   have HT:=h_ (anI (j:=us.length) H0.out (by
    have h1:=HLT.out
    have h2:=Jy us.length
    have h3:=pO us.length
    omega))
   clear hd hp6 hz0 hz1 hz2 hii hl HV0 HP HL H0 HN HU0 HR HLT HC
   go_wp2_with fail
   refine HA.out.mono ?_
   rintro e w2 ⟨vo,rfl,ho2,hf2⟩
   rw[List.nil_append]at ho2
   have hlen:(adD us.length n).length=0+19*2^us.length:=by
    have:=ho2.1
    unfold bc at this
    rw[List.length_map]at this
    omega
   have HF2:Hid (Below w.heap.size w w2):=h_ (HB0.out.trans (hf2.below.mono HB0.out.size))
   obtain⟨g,cap,cur,rfl,hg⟩: ∃g cap cur,vo=.slice (some ⟨g,0,none⟩) (0+19*2^us.length) cap∧w2.heap[g]?=some (.cells cur 5 (0,0)):=by
    rcases ho2.2 with⟨_,h⟩|⟨g,cap,cur,h1,_,h2,_⟩
    ·have:0<2^us.length:=Nat.pow_pos (by omega)
     omega
    ·exact⟨g,cap,cur,h1,h2⟩
   have hcv:(convert 196 9 (.slice (some ⟨g,0,none⟩) (0+19*2^us.length) cap)).run prog w2=.ok (.string ⟨(adD us.length n).toArray⟩) w2:=by
    rw[←hlen]
    refine run_convert_bytes_back w2 196 9 5 ⟨g,0,none⟩ cap (adD us.length n) underlying196 underlying5 underlying9 (fun j hj=>?_)
    exact ho2.cells (g:=g) rfl j _ (by unfold bc;rw[List.getElem?_map,List.getElem?_eq_getElem hj];rfl)
   have HTR:=h_ (Ub w2 (adD us.length n) 48 (by decide))
   rw[HT.out]at HTR
   generalize hm:0+19*2^us.length=M at hcv
   clear ho2 hf2 hlen hg hm HT
   generalize adD us.length n=l at hcv HTR
   go_wp2_with fail
   refine HTR.out.mono ?_
   rintro e w3 ⟨rfl,rfl⟩
   go_wp2_with fail
   go_ret
   exact⟨rfl,HF2.out⟩
end Go.Proofs.YtnapiakfbihnjaaGreatDoor
