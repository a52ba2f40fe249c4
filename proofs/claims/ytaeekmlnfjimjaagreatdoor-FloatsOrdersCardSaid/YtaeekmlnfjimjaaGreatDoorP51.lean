/-
  FloatsOrders: the row's contract, lifted. Conditions: none but the row's own (the listed package variables are as the text lays them).
-/
import Derived.Test.YtaeekmlnfjimjaaGreatDoorCards
import Derived.Test.YtaeekmlnfjimjaaGreatDoorTie
import Derived.WalkKit
import Derived.ProofKit
import Derived.OpenShut
import Derived.Deep.DeepHandedRow
import Derived.Deep.DeepWitnessRowRef
import Derived.LaidMore
import Derived.Lib.LaidTab
import Derived.Test.YtaeekmlnfjimjaaGreatDoorP28
import Derived.Test.YtaeekmlnfjimjaaGreatDoorP50
set_option linter.unusedVariables false
set_option linter.unusedSimpArgs false
set_option linter.unusedSectionVars false
namespace Go.Proofs.YtaeekmlnfjimjaaGreatDoor.floatsOrders
open Go.ChangeShapes Go.WideShapes Go.ChangeAt Go.RowKit Go.Canon

theorem own : ownKnob Tryz.prog.godebug = none := by kernel_rfl
theorem g0 : Tryz.prog.globalNamed "vernier/floats.otherSign" = some 0 := by kernel_rfl
theorem g1 : Tryz.prog.globalNamed "math/bits.deBruijn64tab" = some 1 := by kernel_rfl
theorem g9 : Tryz.prog.globalNamed "internal/strconv.uint64pow10" = some 9 := by kernel_rfl
theorem t0 : (Tryz.prog.globals[0]?).map (·.type) = some 213 := by kernel_rfl
theorem t1 : (Tryz.prog.globals[1]?).map (·.type) = some 270 := by kernel_rfl
theorem t9 : (Tryz.prog.globals[9]?).map (·.type) = some 299 := by kernel_rfl
theorem size : Tryz.prog.globals.size = 11 := by kernel_rfl
def zs64 : List Int := [0, 1, 56, 2, 57, 49, 28, 3, 61, 58, 42, 50, 38, 29, 17, 4, 62, 47, 59, 36, 45, 43, 51, 22, 53, 39, 33, 30, 24, 18, 12, 5, 63, 55, 48, 27, 60, 41, 37, 16, 46, 35, 44, 21, 52, 32, 23, 11, 54, 26, 40, 15, 34, 20, 31, 10, 25, 14, 19, 9, 13, 8, 7, 6]
def zs10 : List Int := [1, 10, 100, 1000, 10000, 100000, 1000000, 10000000, 100000000, 1000000000, 10000000000, 100000000000, 1000000000000, 10000000000000, 100000000000000, 1000000000000000, 10000000000000000, 100000000000000000, 1000000000000000000, 10000000000000000000]
theorem z64 : (zs64.map fun z => Value.int .u8 z) = Lib.deBruijn64tab.map fun z : Nat => Value.int .u8 z := by kernel_rfl
theorem z10 : (zs10.map fun z => Value.int .u64 z) = tab10 := by kernel_rfl
theorem zOs : (([0, 1, 2, 4, 3] : List Int).map fun z => Value.int .i64 z) = osTab := by kernel_rfl

set_option maxRecDepth 100000 in
/-- what the row lists gives the tables that the law reads -/
theorem env {W : World} (h : laidMetH Tryz.prog Rows.floatsOrdersRow.laid W) : EnvT TL W := by
  rw [MakeChecks.laidMetH_plain _ _ _ (by kernel_rfl)] at h
  have m0 : ("vernier/floats.otherSign", Lib.tabData (H := Unit) .i64 [0, 1, 2, 4, 3]) ∈ Rows.floatsOrdersRow.laid := List.mem_of_getElem? (i := 6) rfl
  have m1 : ("math/bits.deBruijn64tab", Lib.tabData (H := Unit) .u8 zs64) ∈ Rows.floatsOrdersRow.laid := List.mem_of_getElem? (i := 1) rfl
  have m9 : ("internal/strconv.uint64pow10", Lib.tabData (H := Unit) .u64 zs10) ∈ Rows.floatsOrdersRow.laid := List.mem_of_getElem? (i := 2) rfl
  obtain ⟨e0, f0, h0⟩ := tab_of_laid m0 g0 t0 Tryz.underlying213 Tryz.underlying3 (by kernel_rfl) (by kernel_rfl) h
  obtain ⟨e1, f1, h1⟩ := tab_of_laid m1 g1 t1 Tryz.underlying270 Tryz.underlying5 (by kernel_rfl) (by kernel_rfl) h
  obtain ⟨e9, f9, h9⟩ := tab_of_laid m9 g9 t9 Tryz.underlying299 Tryz.underlying24 (by kernel_rfl) (by kernel_rfl) h
  rw [z64] at h1
  rw [z10] at h9
  rw [zOs] at h0
  refine ⟨⟨_, h1, _, _, _, rfl, fun j hj => ?_⟩, fun p hp => ?_⟩
  · rw [List.getElem?_toArray, List.getElem?_map, List.getElem?_eq_getElem hj, List.getD_eq_getElem?_getD, List.getElem?_eq_getElem hj]; rfl
  · rcases List.mem_cons.1 hp with rfl | hp
    · exact ⟨_, _, _, h0, fun i v hv => by rw [List.getElem?_toArray]; exact hv⟩
    · rcases List.mem_cons.1 hp with rfl | hp
      · exact ⟨_, _, _, h9, fun i v hv => by rw [List.getElem?_toArray]; exact hv⟩
      · cases hp

theorem call {W : World} (h : laidMetH Tryz.prog Rows.floatsOrdersRow.laid W) (hs : W.ShapedOpen Tryz.prog) {E P m ah al bh bl ch cl : Int} (hA : wB (wv ah al) = true) (hB : wB (wv bh bl) = true) :
    Calls Tryz.prog 4 #[opV E P m ah al bh bl ch cl] W fun e w1 => e = .returned (.bool true) ∧ Below W.heap.size W w1 := by
  have hsz : Tryz.prog.globals.size ≤ W.heap.size := by
    have h10 : (((begin Tryz.prog (fun _ _ => 0) default).world.heap[10]?).bind Obj.row?).isSome = true := by kernel_rfl
    obtain ⟨⟨z, t⟩, hz⟩ := Option.isSome_iff_exists.1 h10
    obtain ⟨cs, hc, _⟩ := hs.1 10 z t (by rw [size]; decide) hz
    obtain ⟨hlt, _⟩ := Array.getElem?_eq_some_iff.1 hc
    rw [size]; omega
  refine (ord_law hA hB W hsz (env h) #[opV E P m ah al bh bl ch cl] ⟨rfl, trivial⟩).mono fun e w1 ⟨v', h1, h2, h3⟩ => ⟨?_, h3⟩
  have h2 : v' = .bool true := h2
  rw [h1, h2]

theorem contract (H : Type) (enc : TypeId × Value → H) (W : World) (args : Array Value) (ds gs : List (DataW H)) (before : List MemPlace)
    (hW : DataW.Whole enc Tryz.prog Tryz.f4.params.toList Rows.floatsOrdersSpec.vars false W args.toList ds gs before) (hL : laidMetH Tryz.prog Rows.floatsOrdersRow.laid W) (hs : W.ShapedOpen Tryz.prog) :
    Calls Tryz.prog 4 args W fun e W' => ∃ v, e = .returned v ∧ Rows.floatsOrdersSpec.post enc Tryz.prog Tryz.f4 false true false false W args v W' := by
  have hW' := hW
  obtain ⟨p, q, hA0, hV, rfl, hfz, hnd⟩ := hW
  have hA : DataW.TrodAll enc Tryz.prog W 0 (fun _ => true) true Tryz.f4.params.toList args.toList ds p := hA0
  rw [Tryz.params4] at hA
  obtain ⟨v, d, rfl, rfl, hd⟩ := trodAll_one hA
  obtain ⟨rfl, rfl⟩ := trodVars_none hV
  clear hA0 hA
  obtain ⟨E, P, m, ah, al, bh, bl, ch, cl, rfl, rfl, rfl, hi, s1, s2, s3, s4, s5, s6⟩ := open_op hd
  refine (call hL hs (wB_of s1 s2) (wB_of s3 s4)).mono fun e W' ⟨he, hb⟩ => ?_
  subst he
  refine ⟨_, rfl, _, _, _, [], [], [], hW', ?_, ?_, rfl, hb.frame _, fun h => by cases h⟩
  · exact trodAll_cons_mk (shut_bool Tryz.underlying4 _) trodAll_mk0
  · rw [Tryz.params4]; exact trodAll_mk1 (shut_op hi s1 s2 s3 s4 s5 s6)

set_option maxRecDepth 100000 in
theorem lifted (os : Os) (started : os.Started) (H : Type) (enc : TypeId × Value → H) (F : Stop.Interp) :
    ReturnsInHanded {} Tryz.checked os 4 .any ((OpenSpec.ofChange Rows.floatsOrdersSpec).preRow enc Tryz.prog Tryz.f4 Rows.floatsOrdersRow.domain false Rows.floatsOrdersRow.laid) (((OpenSpec.ofChange Rows.floatsOrdersSpec).at F).post enc Tryz.prog Tryz.f4 false true false false) := by
  obtain ⟨places, hx⟩ := reads os enc
  refine returnsInHanded_of_row (C := Tryz.checked) (s := OpenSpec.ofChange Rows.floatsOrdersSpec) own started (by kernel_rfl) Tryz.func4
    (witness_row_atRef (enc := enc) (C := Tryz.checked) false (laidWorld os) #[arg0] rfl (by kernel_rfl) (by kernel_rfl) (by kernel_rfl)
      (OpenSpec.preRow_of_cond 8 hx (by kernel_rfl) (fun k hk => by cases hk) (by kernel_rfl) (laid_met os))) ?_
  intro W base args ds gs before _ hW _ _ _ hL hs _
  exact contract H enc W args ds gs before hW hL hs
end Go.Proofs.YtaeekmlnfjimjaaGreatDoor.floatsOrders
