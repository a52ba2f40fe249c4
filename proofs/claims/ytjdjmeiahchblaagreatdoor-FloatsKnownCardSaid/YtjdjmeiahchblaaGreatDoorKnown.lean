/-
  FloatsKnown: in every world that holds the listed tables the call returns true and writes nothing that was there: its steps are reckoned by the kernel in eight pieces; then the row's statement and its card. Conditions: none but the row's own (the listed package variables are as the text lays them).
-/
import Derived.Test.YtjdjmeiahchblaaGreatDoorCards
import Derived.Test.YtjdjmeiahchblaaGreatDoorTie
import Derived.WalkKit
import Derived.ProofKit
import Derived.OpenShut
import Derived.Deep.DeepHandedRow
import Derived.Deep.DeepWitnessRowRef
import Derived.LaidMore
import Derived.Lib.LaidTab
import Derived.Test.YtjdjmeiahchblaaGreatDoorKnownLaid
import Derived.Test.YtjdjmeiahchblaaGreatDoorKnownPiece1
import Derived.Test.YtjdjmeiahchblaaGreatDoorKnownPiece2
import Derived.Test.YtjdjmeiahchblaaGreatDoorKnownPiece3
import Derived.Test.YtjdjmeiahchblaaGreatDoorKnownPiece4
import Derived.Test.YtjdjmeiahchblaaGreatDoorKnownPiece5
import Derived.Test.YtjdjmeiahchblaaGreatDoorKnownPiece6
import Derived.Test.YtjdjmeiahchblaaGreatDoorKnownPiece7
import Derived.Test.YtjdjmeiahchblaaGreatDoorKnownPiece8
namespace Go.Proofs.YtjdjmeiahchblaaGreatDoor.floatsKnown
open Go.ChangeShapes Go.WideShapes Go.ChangeAt Go.RowKit Go.Canon

theorem own : ownKnob Tryz.prog.godebug = none := by kernel_rfl
theorem mixed : Tryz.prog.follows .mixedOrders = true := by kernel_rfl
theorem noCount : NG Tryz.prog := ng_of (by kernel_rfl)

/-! the pieces, from the last to the first -/
theorem fine8 : Fine Tryz.prog 18 8 known0.sz knowntodo7 knownpic7.tm knownpic7.st := last_ok noCount mixed knownpiece8
theorem fine7 : Fine Tryz.prog 18 8 known0.sz knowntodo6 knownpic6.tm knownpic6.st := piece_ok noCount mixed knownpiece7 fine8
theorem fine6 : Fine Tryz.prog 18 8 known0.sz knowntodo5 knownpic5.tm knownpic5.st := piece_ok noCount mixed knownpiece6 fine7
theorem fine5 : Fine Tryz.prog 18 8 known0.sz knowntodo4 knownpic4.tm knownpic4.st := piece_ok noCount mixed knownpiece5 fine6
theorem fine4 : Fine Tryz.prog 18 8 known0.sz knowntodo3 knownpic3.tm knownpic3.st := piece_ok noCount mixed knownpiece4 fine5
theorem fine3 : Fine Tryz.prog 18 8 known0.sz knowntodo2 knownpic2.tm knownpic2.st := piece_ok noCount mixed knownpiece3 fine4
theorem fine2 : Fine Tryz.prog 18 8 known0.sz knowntodo1 knownpic1.tm knownpic1.st := piece_ok noCount mixed knownpiece2 fine3
theorem fine1 : Fine Tryz.prog 18 8 known0.sz knowntodo0 known0.tm (roState rows0 18) := piece_ok noCount mixed knownpiece1 fine2
theorem entered : enterC Tryz.prog 8 #[] = some known0 := by kernel_rfl
theorem enteredFn : known0.fn = 8 := by kernel_rfl

theorem g0 : Tryz.prog.globalNamed "vernier/floats.otherSign" = some 0 := by kernel_rfl
theorem g1 : Tryz.prog.globalNamed "math/bits.deBruijn64tab" = some 1 := by kernel_rfl
theorem g9 : Tryz.prog.globalNamed "internal/strconv.uint64pow10" = some 9 := by kernel_rfl
theorem t0 : (Tryz.prog.globals[0]?).map (·.type) = some 179 := by kernel_rfl
theorem t1 : (Tryz.prog.globals[1]?).map (·.type) = some 194 := by kernel_rfl
theorem t9 : (Tryz.prog.globals[9]?).map (·.type) = some 238 := by kernel_rfl
theorem size : Tryz.prog.globals.size = 11 := by kernel_rfl

set_option maxRecDepth 100000 in
/-- what the row lists gives the rows that the reckoning reads -/
theorem rowsAt {W : World} (h : laidMetH Tryz.prog Rows.floatsKnownRow.laid W) : ∀ p ∈ rows0, ∃ e f, W.heap[p.1]? = some (.cells ⟨p.2⟩ e f) := by
  rw [MakeChecks.laidMetH_plain _ _ _ (by kernel_rfl)] at h
  have m0 : ("vernier/floats.otherSign", Lib.tabData (H := Unit) .i64 [0, 1, 2, 4, 3]) ∈ Rows.floatsKnownRow.laid := List.mem_of_getElem? (i := 6) rfl
  have m1 : ("math/bits.deBruijn64tab", Lib.tabData (H := Unit) .u8 [0, 1, 56, 2, 57, 49, 28, 3, 61, 58, 42, 50, 38, 29, 17, 4, 62, 47, 59, 36, 45, 43, 51, 22, 53, 39, 33, 30, 24, 18, 12, 5, 63, 55, 48, 27, 60, 41, 37, 16, 46, 35, 44, 21, 52, 32, 23, 11, 54, 26, 40, 15, 34, 20, 31, 10, 25, 14, 19, 9, 13, 8, 7, 6]) ∈ Rows.floatsKnownRow.laid := List.mem_of_getElem? (i := 1) rfl
  have m9 : ("internal/strconv.uint64pow10", Lib.tabData (H := Unit) .u64 [1, 10, 100, 1000, 10000, 100000, 1000000, 10000000, 100000000, 1000000000, 10000000000, 100000000000, 1000000000000, 10000000000000, 100000000000000, 1000000000000000, 10000000000000000, 100000000000000000, 1000000000000000000, 10000000000000000000]) ∈ Rows.floatsKnownRow.laid := List.mem_of_getElem? (i := 2) rfl
  have h0 := tab_of_laid m0 g0 t0 Tryz.underlying179 Tryz.underlying3 (by kernel_rfl) (by kernel_rfl) h
  have h1 := tab_of_laid m1 g1 t1 Tryz.underlying194 Tryz.underlying5 (by kernel_rfl) (by kernel_rfl) h
  have h9 := tab_of_laid m9 g9 t9 Tryz.underlying238 (by kernel_rfl) (by kernel_rfl) (by kernel_rfl) h
  intro p hp
  simp only [rows0, List.mem_cons, List.not_mem_nil, or_false] at hp
  rcases hp with rfl | rfl | rfl
  · exact h0
  · exact h1
  · exact h9

theorem call {W : World} (h : laidMetH Tryz.prog Rows.floatsKnownRow.laid W) (hs : W.ShapedOpen Tryz.prog) : Calls Tryz.prog 8 #[] W fun e w1 => e = .returned (.bool true) ∧ Below W.heap.size W w1 := by
  have hsz : Tryz.prog.globals.size ≤ W.heap.size := by
    have h10 : (((begin Tryz.prog (fun _ _ => 0) default).world.heap[10]?).bind Obj.row?).isSome = true := by kernel_rfl
    obtain ⟨⟨z, t⟩, hz⟩ := Option.isSome_iff_exists.1 h10
    obtain ⟨cs, hc, _⟩ := hs.1 10 z t (by rw [size]; decide) hz
    obtain ⟨hlt, _⟩ := Array.getElem?_eq_some_iff.1 hc
    rw [size]; omega
  refine fine_closed entered enteredFn fine1 (Nat.le_refl _) (by rw [size]; decide) W hsz (roState_at ?_ (rowsAt h))
  have hb : (rows0.all fun p => decide (p.1 < 11) && decide (p.1 + 1 < 2 ^ 40) && p.2.all (ground 9)) = true := by kernel_rfl
  rw [List.all_eq_true] at hb
  intro p hp
  have := hb p hp
  simp only [Bool.and_eq_true, decide_eq_true_eq] at this
  exact ⟨by rw [size]; exact this.1.1, this.1.2, this.2⟩

theorem contract (H : Type) (enc : TypeId × Value → H) (W : World) (args : Array Value) (ds gs : List (DataW H)) (before : List MemPlace)
    (hW : DataW.Whole enc Tryz.prog Tryz.f8.params.toList Rows.floatsKnownSpec.vars false W args.toList ds gs before) (hL : laidMetH Tryz.prog Rows.floatsKnownRow.laid W) (hs : W.ShapedOpen Tryz.prog) :
    Calls Tryz.prog 8 args W fun e W' => ∃ v, e = .returned v ∧ Rows.floatsKnownSpec.post enc Tryz.prog Tryz.f8 false true false false W args v W' := by
  have hW' := hW
  obtain ⟨p, q, hA0, hV, rfl, hfz, hnd⟩ := hW
  have hA : DataW.TrodAll enc Tryz.prog W 0 (fun _ => true) true Tryz.f8.params.toList args.toList ds p := hA0
  rw [Tryz.params8] at hA
  obtain ⟨e1, rfl, rfl⟩ := trodAll_nil hA
  obtain rfl : args = #[] := by cases args; simp_all
  obtain ⟨rfl, rfl⟩ := trodVars_none hV
  clear hA0
  refine (call hL hs).mono fun e W' ⟨he, hb⟩ => ?_
  subst he
  refine ⟨_, rfl, _, _, _, [], [], [], hW', ?_, ?_, rfl, hb.frame _, fun h => by cases h⟩
  · exact trodAll_cons_mk (shut_bool Tryz.underlying4 _) trodAll_mk0
  · rw [Tryz.params8]; exact trodAll_mk0

set_option maxRecDepth 100000 in
theorem lifted (os : Os) (started : os.Started) (H : Type) (enc : TypeId × Value → H) (F : Stop.Interp) :
    ReturnsInHanded {} Tryz.checked os 8 .any ((OpenSpec.ofChange Rows.floatsKnownSpec).preRow enc Tryz.prog Tryz.f8 Rows.floatsKnownRow.domain false Rows.floatsKnownRow.laid) (((OpenSpec.ofChange Rows.floatsKnownSpec).at F).post enc Tryz.prog Tryz.f8 false true false false) := by
  obtain ⟨places, hx⟩ := reads os enc
  refine returnsInHanded_of_row (C := Tryz.checked) (s := OpenSpec.ofChange Rows.floatsKnownSpec) own started (by kernel_rfl) Tryz.func8
    (witness_row_atRef (enc := enc) (C := Tryz.checked) false (laidWorld os) #[] rfl (by kernel_rfl) (by kernel_rfl) (by kernel_rfl)
      (OpenSpec.preRow_of_cond 8 hx (by kernel_rfl) (fun k hk => by cases hk) (by kernel_rfl) (laid_met os))) ?_
  intro W base args ds gs before _ hW _ _ _ hL hs _
  exact contract H enc W args ds gs before hW hL hs

theorem said : Rows.FloatsKnownSaid :=
  OpenClaim.holds_of_cond 8 Tryz.f8 rfl rfl rfl rfl rfl rfl rfl ⟨rfl, rfl, rfl, rfl, rfl⟩ rfl rfl rfl rfl rfl (by kernel_rfl) Tryz.func8 (by kernel_rfl)
    (of_decide_eq_true (by kernel_rfl)) (by unfold Func.isWrapper; first | (rw [if_pos (by decide +kernel)]; kernel_rfl) | (rw [if_neg (by decide +kernel)]; exact ⟨rfl, rfl⟩))
    (fun os started H enc _ F => by rw [OpenClaim.pre_eq_preRow]; exact lifted os started H enc F)

/-- No parameter wants a stand-in; what both looks ask. -/
theorem plain (f : FuncId) (fn : Func) (hf : Tryz.pinned.checked.prog.funcNamed "vernier/vernierlaw02.FloatsKnown" = some f) (hfn : Tryz.pinned.checked.prog.funcs[f]? = some fn) :
    true = Tryz.pinned.checked.prog.looks [] ∧ ∀ (j : Nat) t, fn.params[j]? = some t → Tryz.pinned.checked.prog.wantsStandIn t = false := by
  obtain rfl : f = 8 := Option.some.inj ((show Tryz.prog.funcNamed "vernier/vernierlaw02.FloatsKnown" = some 8 by kernel_rfl).symm.trans hf) |>.symm
  obtain rfl : fn = Tryz.f8 := (Option.some.inj (Tryz.func8.symm.trans hfn)).symm
  refine ⟨by kernel_rfl, fun j t ht => ?_⟩
  rw [Tryz.params8] at ht
  simp at ht

/-- THE CARD. -/
theorem card : Rows.FloatsKnownCardSaid :=
  Claim7.holds_tied_plain_at .later [] _ _ _ _ said (fun _ h => by cases h) (by kernel_rfl) (fun _ h => by cases h) floatsKnown_row_tie rfl ⟨rfl, rfl⟩ (by kernel_rfl) rfl plain (by kernel_rfl)
end Go.Proofs.YtjdjmeiahchblaaGreatDoor.floatsKnown
