/-
  Contracts of package floats's machine: the words of infinity and of the quiet NaN, signs.
-/
import Derived.Test.YtnpocnckkaddbaaGreatDoorP14
import Derived.Deep.RegionHeld3
set_option linter.unusedVariables false
set_option linter.unusedSimpArgs false
set_option linter.unusedSectionVars false
namespace Go.Proofs.YtnpocnckkaddbaaGreatDoor
open Go.RowKit Go.Shelf
attribute [local go_sem] eqNil neqNil

/-- below the heap of a call, and with its box -/
def Beneath (w W : World) (g : Nat) (A : Array Value) : Prop := Below w.heap.size w W ∧ Box W g A
theorem Beneath.next {w W W' : World} {g : Nat} {A : Array Value} (h : Beneath w W g A) (hb : Below W.heap.size W W') : Beneath w W' g A := ⟨h.1.trans (hb.mono h.1.size), h.2.below hb⟩

theorem p2_mod {k : Nat} (h : k ≤ 127) : (2 : Int) ^ k % two128 = 2 ^ k := by
  refine Int.emod_eq_of_lt (Int.le_of_lt (p2pos k)) ?_
  unfold two128
  obtain ⟨d, hd⟩ : ∃ d, 128 = k + (d + 1) := ⟨127 - k, by omega⟩
  rw [hd, Int.pow_add, Int.pow_succ]
  have h2 := Int.mul_le_mul_of_nonneg_left (show (1 : Int) ≤ 2 ^ d from p2pos d) (Int.le_of_lt (p2pos k))
  have h3 : (2 : Int) ^ k * (2 ^ d * 2) = 2 ^ k * 2 ^ d * 2 := by grind
  have := p2pos k
  omega
theorem p2_le {a b : Nat} (h : a ≤ b) : (2 : Int) ^ a ≤ 2 ^ b := by
  obtain ⟨d, rfl⟩ := Nat.exists_eq_add_of_le h
  rw [Int.pow_add]
  have := Int.mul_le_mul_of_nonneg_left (show (1 : Int) ≤ 2 ^ d from p2pos d) (Int.le_of_lt (p2pos a))
  omega
theorem p2_lt128 {k : Nat} (h : k ≤ 127) : (2 : Int) ^ k < two128 := by rw [← p2_mod h]; exact Int.emod_lt_of_pos _ (by rw [two128_eq]; omega)

/-- the word of infinity -/
def infOf (E P : Int) : Int := 2 ^ (E + P - 1).toNat - 2 ^ (P - 1).toNat
theorem inf_range {E P : Int} (h : Fmt E P) : 0 < infOf E P ∧ infOf E P < 2 ^ (E + P - 1).toNat ∧ infOf E P < two128 := by
  obtain ⟨h1, h2, h3, h4, h5⟩ := h
  unfold infOf
  have a := p2_lt128 (k := (E + P - 1).toNat) (by omega)
  have b := p2pos (P - 1).toNat
  have c := p2_le (a := (P - 1).toNat + 1) (b := (E + P - 1).toNat) (by omega)
  rw [Int.pow_succ] at c
  omega

set_option maxRecDepth 100000 in
set_option maxHeartbeats 1000000 in
theorem infinity_any (w : World) (E P m : Int) (h : Fmt E P) : Calls Tryz.prog 121 #[.agg #[.int .i64 E, .int .i64 P, .int .i64 m]] w (WPost w (infOf E P)) := by
  have HX : Hid ((2 ^ (E + P - 1).toNat - 2 ^ (P - 1).toNat) % two128 = infOf E P) := Lib.hid (by
    have := inf_range h
    exact Int.emod_eq_of_lt (by unfold infOf at this; omega) this.2.2)
  obtain ⟨h1, h2, h3, h4, h5⟩ := h
  have x1 : IntKind.i64.wrap (E + P) = E + P := IntWalk.i64_in _ (by omega)
  have x2 : IntKind.i64.wrap (E + P - 1) = E + P - 1 := IntWalk.i64_in _ (by omega)
  have x3 : IntKind.i64.wrap (P - 1) = P - 1 := IntWalk.i64_in _ (by omega)
  go_enter Tryz.func121, Tryz.ntmps121
  go_wp2_with fail
  obtain ⟨hA, hB, hW0⟩ := boxes2' w #[.int .i64 E, .int .i64 P, .int .i64 m] #[.int .u64 0, .int .u64 0] 66 26
  generalize hW : (w.alloc (.cells #[.int .i64 E, .int .i64 P, .int .i64 m] 66)).alloc (.cells #[.int .u64 0, .int .u64 0] 26) = W at hA hB hW0 ⊢
  clear hW
  have H0 : Hid (Two w W.drew w.heap.size #[.int .i64 E, .int .i64 P, .int .i64 m] #[.int .u64 0, .int .u64 0]) := Lib.hid ⟨hW0.trans ((Drw.step W 1).below _), hA.below ((Drw.step W 1).below _), hB.below ((Drw.step W 1).below _)⟩
  have c0 : W.cell? ⟨w.heap.size, 0, none⟩ = some (.int .i64 E) := hA.cell 0
  have c1 : W.cell? ⟨w.heap.size, 1, none⟩ = some (.int .i64 P) := hA.cell 1
  clear hA hB hW0
  generalize hg : w.heap.size = g at *
  have HG := Lib.hid hg
  clear hg
  have step : ∀ (W1 W2 : World), Two w W1 g #[.int .i64 E, .int .i64 P, .int .i64 m] #[.int .u64 0, .int .u64 0] → Below W1.heap.size W1 W2 → Hid (Two w W2 g #[.int .i64 E, .int .i64 P, .int .i64 m] #[.int .u64 0, .int .u64 0]) ∧ W2.cell? ⟨g, 0, none⟩ = some (.int .i64 E) ∧ W2.cell? ⟨g, 1, none⟩ = some (.int .i64 P) := fun W1 W2 a b =>
    ⟨Lib.hid (a.next b), (a.next b).2.1.cell 0, (a.next b).2.1.cell 1⟩
  have HSt := Lib.hid step
  have K1 : Hid (∀ W1, Calls Tryz.prog 188 #[.int .i64 (E + P - 1)] W1 (WPost W1 (2 ^ (E + P - 1).toNat))) := Lib.hid fun W1 => bit_any W1 _ (by omega) (by omega)
  have K2 : Hid (∀ W1, Calls Tryz.prog 188 #[.int .i64 (P - 1)] W1 (WPost W1 (2 ^ (P - 1).toNat))) := Lib.hid fun W1 => bit_any W1 _ (by omega) (by omega)
  clear step
  go_region_held3 (fun w' => w'.cell? ⟨g, 0, none⟩ = some (.int .i64 E) ∧ w'.cell? ⟨g, 1, none⟩ = some (.int .i64 P)) (first | go_keep | exact ⟨by assumption, by assumption⟩)
    (first
      | (go_at_call 188; (with_reducible refine (K1.out _).mono ?_); rintro en w1 ⟨a1, b1, rfl, W1, hb1⟩; obtain ⟨H1, d10, d11⟩ := HSt.out _ _ H0.out hb1; clear hb1)
      | (go_at_call 188; (with_reducible refine (K2.out _).mono ?_); rintro en w2 ⟨a2, b2, rfl, W2, hb2⟩; obtain ⟨H2, d20, d21⟩ := HSt.out _ _ H1.out hb2; clear hb2)
      | (go_at_call 150; refine (minus_any _ _ _ _ _ _ _ W1 W2).mono ?_; rintro en w3 ⟨a3, b3, rfl, W3, hb3⟩; obtain ⟨H3, d30, d31⟩ := HSt.out _ _ H2.out hb3; have cB := H3.out.2.2.cell; have fB := H3.out.2.2.free; clear hb3))
  have lB := H3.out.2.2.lt
  have W4 := Lib.hid (HX.out ▸ W3)
  clear W1 W2 W3 d10 d11 d20 d21 d30 d31
  go_wp2_with fail
  refine bodyPost_ret (v := .agg #[.int .u64 a3, .int .u64 b3]) (by simp [results, Tryz.results121, go_sem, cB, lB]) rfl ?_
  have ho := stored2 (g + 1) w3 (.int .u64 a3) (.int .u64 b3)
  exact ⟨a3, b3, rfl, W4.out, H3.out.1.trans (ho.below H3.out.1.size (by have := HG.out; omega))⟩

/-- the word of the quiet NaN with the payload 0 -/
def quietOf (E P : Int) : Int := infOf E P + 2 ^ (P - 2).toNat
theorem quiet_range {E P : Int} (h : Fmt E P) : infOf E P < quietOf E P ∧ quietOf E P < 2 ^ (E + P - 1).toNat ∧ quietOf E P < two128 := by
  have hi := inf_range h
  obtain ⟨h1, h2, h3, h4, h5⟩ := h
  unfold quietOf
  have b := p2pos (P - 2).toNat
  have c := p2_le (a := (P - 2).toNat + 1) (b := (P - 1).toNat) (by omega)
  rw [Int.pow_succ] at c
  have a := p2_lt128 (k := (E + P - 1).toNat) (by omega)
  unfold infOf at *
  omega

set_option maxRecDepth 100000 in
set_option maxHeartbeats 1000000 in
theorem quiet_any (w : World) (E P m : Int) (h : Fmt E P) : Calls Tryz.prog 171 #[.agg #[.int .i64 E, .int .i64 P, .int .i64 m]] w (WPost w (quietOf E P)) := by
  have HX : Hid ((infOf E P + 2 ^ (P - 2).toNat) % two128 = quietOf E P) := Lib.hid (by
    have := quiet_range h
    have := inf_range h
    have := p2pos (P - 2).toNat
    exact Int.emod_eq_of_lt (by omega) (by unfold quietOf at *; omega))
  have K1 : Hid (∀ W1, Calls Tryz.prog 121 #[.agg #[.int .i64 E, .int .i64 P, .int .i64 m]] W1 (WPost W1 (infOf E P))) := Lib.hid fun W1 => infinity_any W1 E P m h
  obtain ⟨h1, h2, h3, h4, h5⟩ := h
  have x3 : IntKind.i64.wrap (P - 2) = P - 2 := IntWalk.i64_in _ (by omega)
  go_enter Tryz.func171, Tryz.ntmps171
  go_wp2_with fail
  obtain ⟨hA, hB, hW0⟩ := boxes2' w #[.int .i64 E, .int .i64 P, .int .i64 m] #[.int .u64 0, .int .u64 0] 66 26
  generalize hW : (w.alloc (.cells #[.int .i64 E, .int .i64 P, .int .i64 m] 66)).alloc (.cells #[.int .u64 0, .int .u64 0] 26) = W at hA hB hW0 ⊢
  clear hW
  have H0 : Hid (Two w W.drew w.heap.size #[.int .i64 E, .int .i64 P, .int .i64 m] #[.int .u64 0, .int .u64 0]) := Lib.hid ⟨hW0.trans ((Drw.step W 1).below _), hA.below ((Drw.step W 1).below _), hB.below ((Drw.step W 1).below _)⟩
  have c0 : W.cell? ⟨w.heap.size, 0, none⟩ = some (.int .i64 E) := hA.cell 0
  have c1 : W.cell? ⟨w.heap.size, 1, none⟩ = some (.int .i64 P) := hA.cell 1
  have c2 : W.cell? ⟨w.heap.size, 2, none⟩ = some (.int .i64 m) := hA.cell 2
  clear hA hB hW0
  generalize hg : w.heap.size = g at *
  have HG := Lib.hid hg
  clear hg
  have step : ∀ (W1 W2 : World), Two w W1 g #[.int .i64 E, .int .i64 P, .int .i64 m] #[.int .u64 0, .int .u64 0] → Below W1.heap.size W1 W2 → Hid (Two w W2 g #[.int .i64 E, .int .i64 P, .int .i64 m] #[.int .u64 0, .int .u64 0]) ∧ W2.cell? ⟨g, 0, none⟩ = some (.int .i64 E) ∧ W2.cell? ⟨g, 1, none⟩ = some (.int .i64 P) ∧ W2.cell? ⟨g, 2, none⟩ = some (.int .i64 m) := fun W1 W2 a b =>
    ⟨Lib.hid (a.next b), (a.next b).2.1.cell 0, (a.next b).2.1.cell 1, (a.next b).2.1.cell 2⟩
  have HSt := Lib.hid step
  have K2 : Hid (∀ W1, Calls Tryz.prog 188 #[.int .i64 (P - 2)] W1 (WPost W1 (2 ^ (P - 2).toNat))) := Lib.hid fun W1 => bit_any W1 _ (by omega) (by omega)
  clear step
  go_region_held3 (fun w' => w'.cell? ⟨g, 0, none⟩ = some (.int .i64 E) ∧ w'.cell? ⟨g, 1, none⟩ = some (.int .i64 P) ∧ w'.cell? ⟨g, 2, none⟩ = some (.int .i64 m)) (first | go_keep | exact ⟨by assumption, by assumption, by assumption⟩)
    (first
      | (go_at_call 121; refine (K1.out _).mono ?_; rintro en w1 ⟨a1, b1, rfl, W1, hb1⟩; obtain ⟨H1, d10, d11, d12⟩ := HSt.out _ _ H0.out hb1; clear hb1)
      | (go_at_call 188; refine (K2.out _).mono ?_; rintro en w2 ⟨a2, b2, rfl, W2, hb2⟩; obtain ⟨H2, d20, d21, d22⟩ := HSt.out _ _ H1.out hb2; clear hb2)
      | (go_at_call 151; refine (plus_any _ _ _ _ _ _ _ W1 W2).mono ?_; rintro en w3 ⟨a3, b3, rfl, W3, hb3⟩; obtain ⟨H3, d30, d31, d32⟩ := HSt.out _ _ H2.out hb3; have cB := H3.out.2.2.cell; have fB := H3.out.2.2.free; clear hb3))
  have lB := H3.out.2.2.lt
  have W4 := Lib.hid (HX.out ▸ W3)
  clear W1 W2 W3 d10 d11 d12 d20 d21 d22 d30 d31 d32
  go_wp2_with fail
  refine bodyPost_ret (v := .agg #[.int .u64 a3, .int .u64 b3]) (by simp [results, Tryz.results171, go_sem, cB, lB]) rfl ?_
  have ho := stored2 (g + 1) w3 (.int .u64 a3) (.int .u64 b3)
  exact ⟨a3, b3, rfl, W4.out, H3.out.1.trans (ho.below H3.out.1.size (by have := HG.out; omega))⟩
end Go.Proofs.YtnpocnckkaddbaaGreatDoor
/-
  Contracts of package floats's machine: signed, unsigned.
-/
namespace Go.Proofs.YtnpocnckkaddbaaGreatDoor
open Go.RowKit Go.Shelf
attribute [local go_sem] eqNil neqNil

/-- three boxes -/
def Three (w W : World) (g : Nat) (A B C : Array Value) : Prop := Below w.heap.size w W ∧ Box W g A ∧ Box W (g + 1) B ∧ Box W (g + 1 + 1) C
theorem Three.next {w W W' : World} {g : Nat} {A B C : Array Value} (h : Three w W g A B C) (hb : Below W.heap.size W W') : Three w W' g A B C := ⟨h.1.trans (hb.mono h.1.size), h.2.1.below hb, h.2.2.1.below hb, h.2.2.2.below hb⟩
theorem boxes3' (w : World) (A B C : Array Value) (T U V : TypeId) : Three w (((w.alloc (.cells A T)).alloc (.cells B U)).alloc (.cells C V)) w.heap.size A B C := by
  refine ⟨(((Below.refl _ _).alloc (Nat.le_refl _) _).alloc (by simp) _).alloc (by simp; omega) _, ((Box.new w A T).alloc _).alloc _, ?_, ?_⟩
  · have := (Box.new (w.alloc (.cells A T)) B U).alloc (.cells C V)
    rwa [World.size_alloc] at this
  · have := Box.new ((w.alloc (.cells A T)).alloc (.cells B U)) C V
    rwa [World.size_alloc, World.size_alloc] at this

/-- the bit of the sign -/
def signOf (E P : Int) : Int := 2 ^ (E + P - 1).toNat
theorem sign_range {E P : Int} (h : Fmt E P) : 0 < signOf E P ∧ 2 * signOf E P < two128 := by
  obtain ⟨h1, h2, h3, h4, h5⟩ := h
  unfold signOf
  have a := p2_lt128 (k := (E + P - 1).toNat + 1) (by omega)
  rw [Int.pow_succ] at a
  have := p2pos (E + P - 1).toNat
  omega

set_option maxRecDepth 100000 in
theorem signed_no (w : World) (E P m h l : Int) :
    Calls Tryz.prog 120 #[.agg #[.int .i64 E, .int .i64 P, .int .i64 m], .bool false, .agg #[.int .u64 h, .int .u64 l]] w fun e w' => e = .returned (.agg #[.int .u64 h, .int .u64 l]) ∧ Below w.heap.size w w' := by
  go_enter Tryz.func120, Tryz.ntmps120
  go_wp2
  refine bodyPost_ret (v := .agg #[.int .u64 h, .int .u64 l]) (by simp [results, Tryz.results120, go_sem]) rfl ?_
  exact ⟨rfl, below3 _ _ _ _⟩

set_option maxRecDepth 100000 in
set_option maxHeartbeats 1000000 in
theorem signed_yes (w : World) (E P m h l X : Int) (hf : Fmt E P) (hw : Wn h l X) (hX : X < signOf E P) :
    Calls Tryz.prog 120 #[.agg #[.int .i64 E, .int .i64 P, .int .i64 m], .bool true, .agg #[.int .u64 h, .int .u64 l]] w (WPost w (X + signOf E P)) := by
  have HX : Hid ((X + 2 ^ (E + P - 1).toNat) % two128 = X + signOf E P) := Lib.hid (by
    have := sign_range hf
    have := hw.range
    exact Int.emod_eq_of_lt (by unfold signOf at *; omega) (by unfold signOf at *; omega))
  obtain ⟨h1, h2, h3, h4, h5⟩ := hf
  have HWn := Lib.hid hw
  clear hw hX
  have x1 : IntKind.i64.wrap (E + P) = E + P := IntWalk.i64_in _ (by omega)
  have x2 : IntKind.i64.wrap (E + P - 1) = E + P - 1 := IntWalk.i64_in _ (by omega)
  go_enter Tryz.func120, Tryz.ntmps120
  go_wp2_with fail
  have hT := boxes3' w #[.int .i64 E, .int .i64 P, .int .i64 m] #[.int .u64 h, .int .u64 l] #[.int .u64 0, .int .u64 0] 66 26 26
  generalize hW : ((w.alloc (.cells #[.int .i64 E, .int .i64 P, .int .i64 m] 66)).alloc (.cells #[.int .u64 h, .int .u64 l] 26)).alloc (.cells #[.int .u64 0, .int .u64 0] 26) = W at hT ⊢
  clear hW
  have H0 : Hid (Three w W.drew w.heap.size #[.int .i64 E, .int .i64 P, .int .i64 m] #[.int .u64 h, .int .u64 l] #[.int .u64 0, .int .u64 0]) := Lib.hid (hT.next ((Drw.step W 1).below _))
  have c0 : W.cell? ⟨w.heap.size, 0, none⟩ = some (.int .i64 E) := hT.2.1.cell 0
  have c1 : W.cell? ⟨w.heap.size, 1, none⟩ = some (.int .i64 P) := hT.2.1.cell 1
  have c2 : W.cell? ⟨w.heap.size + 1, 0, none⟩ = some (.int .u64 h) := hT.2.2.1.cell 0
  have c3 : W.cell? ⟨w.heap.size + 1, 1, none⟩ = some (.int .u64 l) := hT.2.2.1.cell 1
  clear hT
  generalize hg : w.heap.size = g at *
  have HG := Lib.hid hg
  clear hg
  have step : ∀ (W1 W2 : World), Three w W1 g #[.int .i64 E, .int .i64 P, .int .i64 m] #[.int .u64 h, .int .u64 l] #[.int .u64 0, .int .u64 0] → Below W1.heap.size W1 W2 → Hid (Three w W2 g #[.int .i64 E, .int .i64 P, .int .i64 m] #[.int .u64 h, .int .u64 l] #[.int .u64 0, .int .u64 0]) ∧ W2.cell? ⟨g, 0, none⟩ = some (.int .i64 E) ∧ W2.cell? ⟨g, 1, none⟩ = some (.int .i64 P) ∧ W2.cell? ⟨g + 1, 0, none⟩ = some (.int .u64 h) ∧ W2.cell? ⟨g + 1, 1, none⟩ = some (.int .u64 l) := fun W1 W2 a b =>
    ⟨Lib.hid (a.next b), (a.next b).2.1.cell 0, (a.next b).2.1.cell 1, (a.next b).2.2.1.cell 0, (a.next b).2.2.1.cell 1⟩
  have HSt := Lib.hid step
  have K1 : Hid (∀ W1, Calls Tryz.prog 188 #[.int .i64 (E + P - 1)] W1 (WPost W1 (2 ^ (E + P - 1).toNat))) := Lib.hid fun W1 => bit_any W1 _ (by omega) (by omega)
  clear step
  go_region_held3 (fun w' => w'.cell? ⟨g, 0, none⟩ = some (.int .i64 E) ∧ w'.cell? ⟨g, 1, none⟩ = some (.int .i64 P) ∧ w'.cell? ⟨g + 1, 0, none⟩ = some (.int .u64 h) ∧ w'.cell? ⟨g + 1, 1, none⟩ = some (.int .u64 l)) (first | exact ⟨by assumption, by assumption, by assumption, by assumption⟩ | (simp [go_sem, *]; done) | go_keep)
    (first
      | (go_at_call 188; refine (K1.out _).mono ?_; rintro en w1 ⟨a1, b1, rfl, W1, hb1⟩; obtain ⟨H1, d10, d11, d12, d13⟩ := HSt.out _ _ H0.out hb1; clear hb1)
      | (go_at_call 151; refine (plus_any _ _ _ _ _ _ _ HWn.out W1).mono ?_; rintro en w3 ⟨a3, b3, rfl, W3, hb3⟩; obtain ⟨H3, d30, d31, d32, d33⟩ := HSt.out _ _ H1.out hb3; have cB := H3.out.2.2.2.cell; have fB := H3.out.2.2.2.free; clear hb3))
  have lB := H3.out.2.2.2.lt
  have W4 := Lib.hid (HX.out ▸ W3)
  clear W1 W3 d10 d11 d12 d13 d30 d31 d32 d33
  go_wp2_with fail
  refine bodyPost_ret (v := .agg #[.int .u64 a3, .int .u64 b3]) (by simp [results, Tryz.results120, go_sem, cB, lB]) rfl ?_
  have ho := stored2 (g + 1 + 1) w3 (.int .u64 a3) (.int .u64 b3)
  exact ⟨a3, b3, rfl, W4.out, H3.out.1.trans (ho.below H3.out.1.size (by have := HG.out; omega))⟩

def UnPost (w : World) (neg : Bool) (X : Int) (e : Ending) (w' : World) : Prop := ∃ h l, e = .returned (.tuple #[.bool neg, .agg #[.int .u64 h, .int .u64 l]]) ∧ Wn h l X ∧ Below w.heap.size w w'

set_option maxRecDepth 100000 in
set_option maxHeartbeats 1000000 in
theorem unsigned_pos (w : World) (E P m h l X : Int) (hf : Fmt E P) (hw : Wn h l X) (hX : X < signOf E P) :
    Calls Tryz.prog 148 #[.agg #[.int .i64 E, .int .i64 P, .int .i64 m], .agg #[.int .u64 h, .int .u64 l]] w (UnPost w false X) := by
  have HWn := Lib.hid hw
  have hd : decide (X < signOf E P) = true := by simpa using hX
  have HDc := Lib.hid hd
  obtain ⟨h1, h2, h3, h4, h5⟩ := hf
  have K1 : Hid (∀ W1, Calls Tryz.prog 188 #[.int .i64 (E + P - 1)] W1 (WPost W1 (signOf E P))) := Lib.hid fun W1 => bit_any W1 _ (by omega) (by omega)
  clear hw hX hd
  have x1 : IntKind.i64.wrap (E + P) = E + P := IntWalk.i64_in _ (by omega)
  have x2 : IntKind.i64.wrap (E + P - 1) = E + P - 1 := IntWalk.i64_in _ (by omega)
  go_enter Tryz.func148, Tryz.ntmps148
  go_wp2_with fail
  have HT : Hid (Three w _ w.heap.size _ _ _) := Lib.hid (boxes3' w #[.int .i64 E, .int .i64 P, .int .i64 m] #[.int .u64 h, .int .u64 l] #[.int .u64 0, .int .u64 0] 66 26 26)
  refine (K1.out _).mono ?_
  rintro en w1 ⟨a1, b1, rfl, W1, hb⟩
  have HT1 := Lib.hid (HT.out.next hb)
  have HW1 := Lib.hid W1
  clear hb W1
  have cA := HT1.out.2.2.1.cell
  have lA := HT1.out.2.2.1.lt
  go_wp2_with fail
  have hl := less_any (w1.alloc (.cells #[.int .u64 a1, .int .u64 b1] 26)) h l X a1 b1 (signOf E P) HWn.out HW1.out
  rw [HDc.out] at hl
  refine hl.mono ?_
  rintro en w2 ⟨rfl, hb⟩
  have HT2 := Lib.hid ((HT1.out.next ((Below.refl _ _).alloc (Nat.le_refl _) _)).next hb)
  clear hl hb cA lA
  have cA := HT2.out.2.2.1.cell
  have cC := HT2.out.2.2.2.cell
  have fC := HT2.out.2.2.2.free
  have lC := HT2.out.2.2.2.lt
  generalize hg : w.heap.size = g at *
  have HG := Lib.hid hg
  clear hg
  go_wp2_with fail
  go_region
  go_wp2_with fail
  refine bodyPost_ret (v := .tuple #[.bool false, .agg #[.int .u64 h, .int .u64 l]]) (by simp [results, Tryz.results148, go_sem, cC, lC]) rfl ?_
  have ho := stored2 (g + 1 + 1) w2.drew (.int .u64 h) (.int .u64 l)
  have hbb : Below w.heap.size w w2.drew := HT2.out.1.trans ((Drw.step w2 1).below _)
  exact ⟨h, l, rfl, HWn.out, hbb.trans (ho.below hbb.size (by have := HG.out; omega))⟩

set_option maxRecDepth 100000 in
set_option maxHeartbeats 1000000 in
theorem unsigned_neg (w : World) (E P m h l X : Int) (hf : Fmt E P) (hw : Wn h l X) (hX : signOf E P ≤ X) :
    Calls Tryz.prog 148 #[.agg #[.int .i64 E, .int .i64 P, .int .i64 m], .agg #[.int .u64 h, .int .u64 l]] w (UnPost w true (X - signOf E P)) := by
  have HWn := Lib.hid hw
  have hd : decide (X < signOf E P) = false := by simp; omega
  have HDc := Lib.hid hd
  have HX : Hid ((X - signOf E P) % two128 = X - signOf E P) := Lib.hid (by
    have := sign_range hf
    have := hw.range
    exact Int.emod_eq_of_lt (by omega) (by omega))
  obtain ⟨h1, h2, h3, h4, h5⟩ := hf
  have K1 : Hid (∀ W1, Calls Tryz.prog 188 #[.int .i64 (E + P - 1)] W1 (WPost W1 (signOf E P))) := Lib.hid fun W1 => bit_any W1 _ (by omega) (by omega)
  clear hw hX hd
  have x1 : IntKind.i64.wrap (E + P) = E + P := IntWalk.i64_in _ (by omega)
  have x2 : IntKind.i64.wrap (E + P - 1) = E + P - 1 := IntWalk.i64_in _ (by omega)
  go_enter Tryz.func148, Tryz.ntmps148
  go_wp2_with fail
  have HT : Hid (Three w _ w.heap.size _ _ _) := Lib.hid (boxes3' w #[.int .i64 E, .int .i64 P, .int .i64 m] #[.int .u64 h, .int .u64 l] #[.int .u64 0, .int .u64 0] 66 26 26)
  refine (K1.out _).mono ?_
  rintro en w1 ⟨a1, b1, rfl, W1, hb⟩
  have HT1 := Lib.hid (HT.out.next hb)
  have HW1 := Lib.hid W1
  clear hb W1
  have cA := HT1.out.2.2.1.cell
  have lA := HT1.out.2.2.1.lt
  go_wp2_with fail
  have hl := less_any (w1.alloc (.cells #[.int .u64 a1, .int .u64 b1] 26)) h l X a1 b1 (signOf E P) HWn.out HW1.out
  rw [HDc.out] at hl
  refine hl.mono ?_
  rintro en w2 ⟨rfl, hb⟩
  have HT2 := Lib.hid ((HT1.out.next ((Below.refl _ _).alloc (Nat.le_refl _) _)).next hb)
  have HS2 := Lib.hid ((Box.new w1 #[.int .u64 a1, .int .u64 b1] 26).below hb)
  clear hl hb cA lA
  have cA := HT2.out.2.2.1.cell
  have cS := HS2.out.cell
  go_wp2_with fail
  refine (minus_any w2 h l X a1 b1 (signOf E P) HWn.out HW1.out).mono ?_
  rintro en w3 ⟨a3, b3, rfl, W3, hb⟩
  have HT3 := Lib.hid (HT2.out.next hb)
  have HW3 := Lib.hid (HX.out ▸ W3)
  clear hb W3 cA cS
  have cC := HT3.out.2.2.2.cell
  have fC := HT3.out.2.2.2.free
  have lC := HT3.out.2.2.2.lt
  generalize hg : w.heap.size = g at *
  have HG := Lib.hid hg
  clear hg
  go_wp2_with fail
  refine bodyPost_ret (v := .tuple #[.bool true, .agg #[.int .u64 a3, .int .u64 b3]]) (by simp [results, Tryz.results148, go_sem, cC, lC]) rfl ?_
  have ho := stored2 (g + 1 + 1) w3 (.int .u64 a3) (.int .u64 b3)
  exact ⟨a3, b3, rfl, HW3.out, HT3.out.1.trans (ho.below HT3.out.1.size (by have := HG.out; omega))⟩
end Go.Proofs.YtnpocnckkaddbaaGreatDoor
/-
  Contract of package floats's toNum.
-/
namespace Go.Proofs.YtnpocnckkaddbaaGreatDoor
open Go.RowKit Go.Shelf
attribute [local go_sem] eqNil neqNil

theorem fieldLo (w : World) (a b : Int) : (Instr.field 26 (.agg #[.int .u64 a, .int .u64 b]) 1).run Tryz.prog w = .ok (.int .u64 b) w := by kernel_rfl
attribute [local go_sem] fieldLo

theorem and_mask (x : Int) (h0 : 0 ≤ x) (h1 : x < 18446744073709551616) : bits .and .u64 x 4611686018427387903 = x % 4611686018427387904 := by
  obtain ⟨x, rfl⟩ := Int.eq_ofNat_of_zero_le h0
  have h := bits_and_u64_nat x 4611686018427387903 (by omega) (by omega)
  have e : x &&& 4611686018427387903 = x % 4611686018427387904 := Nat.and_two_pow_sub_one_eq_mod x 62
  rw [e] at h
  exact h

theorem lo62 {h l X : Int} (a : Wn h l X) (hX : X < 2 ^ 124) : Wn h l X ∧ 0 ≤ X / 2 ^ 62 ∧ X / 2 ^ 62 < 2 ^ 62 ∧ X = X / 2 ^ 62 * 2 ^ 62 + l % 4611686018427387904 := by
  have b := a
  obtain ⟨a1, a2, a3, a4, rfl⟩ := a
  have e : (2 : Int) ^ 62 = 4611686018427387904 := rfl
  have e2 : (2 : Int) ^ 124 = 4611686018427387904 * 4611686018427387904 := rfl
  rw [e2] at hX
  rw [e]
  exact ⟨b, by omega, by omega, by omega⟩

theorem sml62 : (2 : Int) ^ 130 < sml := by
  unfold sml
  rw [show 60000 = 130 + (1 + 59869) from rfl, Int.pow_add, Int.pow_add]
  have h1 := p2pos 130
  have h2 := Int.mul_le_mul_of_nonneg_left (show (1 : Int) ≤ 2 ^ 59869 from p2pos _) (show (0 : Int) ≤ 2 ^ 1 by decide)
  have h3 := Int.mul_le_mul_of_nonneg_left (show (2 : Int) ≤ 2 ^ 1 * 2 ^ 59869 by omega) (Int.le_of_lt h1)
  omega

set_option maxRecDepth 100000 in
set_option maxHeartbeats 1000000 in
theorem toNum_low (w : World) (hE : Env w) (h l X : Int) (a : Wn h l X) (hX : X < 4611686018427387904) : Calls Tryz.prog 210 #[.agg #[.int .u64 h, .int .u64 l]] w (DnPost w X 0) := by
  have HE := Lib.hid hE
  have HWn := Lib.hid a
  obtain ⟨a1, a2, a3, a4, a5⟩ := a
  have hm := and_mask l a3 a4
  have hlX : Hid (l % 4611686018427387904 = X) := Lib.hid (by omega)
  rw [hlX.out] at hm
  have c1 : IntKind.i64.wrap X = X := IntWalk.i64_in _ (by omega)
  have HX : Hid (0 ≤ X ∧ X < 4611686018427387904) := Lib.hid (by omega)
  have hr : Hid (∀ W1, Calls Tryz.prog 141 #[.agg #[.int .u64 h, .int .u64 l], .int .i64 62] W1 (WPost W1 0)) := Lib.hid (fun W1 => by
    have := wright_any W1 h l X HWn.out 62 (by omega)
    rwa [show X / 2 ^ 62 = 0 from Int.ediv_eq_zero_of_lt HX.out.1 HX.out.2] at this)
  clear hE a5 hX
  go_enter Tryz.func210, Tryz.ntmps210
  go_wp2_with fail
  have HT := boxes2n w #[.int .u64 h, .int .u64 l] #[.bool false, .slice none 0 0, .slice none 0 0, .int .i64 0] 26 47
  refine (int_any _ (HE.out.below HT.out.1) X (by have := HX.out; omega) (by have := HX.out; omega)).mono ?_
  rintro en w1 ⟨v1, rfl, hv, hb⟩
  obtain ⟨s, o, lx, c, o2, l2, c2, q, rfl⟩ := hv.shape
  have HT1 := Lib.hid (HT.out.next hb)
  have HV := Lib.hid hv
  clear hb hv
  have cA := HT1.out.2.1.cell
  have lA := HT1.out.2.1.lt
  go_wp2_with fail
  refine (hr.out _).mono ?_
  rintro en w2 ⟨h3, l3, rfl, W3, hb⟩
  have HT2 := Lib.hid ((HT1.out.next ((Below.refl _ _).alloc (Nat.le_refl _) _)).next hb)
  have HS2 := Lib.hid ((Box.new w1 #[.bool s, .slice o lx c, .slice o2 l2 c2, .int .i64 q] 47).below hb)
  have HV2 := Lib.hid ((HV.out.below ((Below.refl _ _).alloc (Nat.le_refl _) _)).below hb)
  obtain ⟨q1, q2, q3, q4, q5⟩ := W3
  obtain rfl : l3 = 0 := by omega
  clear hb cA lA q1 q2 q3 q4 q5
  have cS := HS2.out.cell
  have cC := HT2.out.2.2.cell
  have fC := HT2.out.2.2.free
  have lC := HT2.out.2.2.lt
  generalize hg : w.heap.size = g at *
  have HG := Lib.hid hg
  clear hg
  go_wp2_with fail
  refine bodyPost_ret (v := .agg #[.bool s, .slice o lx c, .slice o2 l2 c2, .int .i64 q]) (by simp [results, Tryz.results210, go_sem, cC, lC]) rfl ?_
  have ho := Stored.only (g + 1) w2 s o lx c o2 l2 c2 q
  exact ⟨_, rfl, HV2.out.only ho HT2.out.2.2.noW, HT2.out.1.trans (ho.below HT2.out.1.size (by have := HG.out; omega))⟩


set_option maxRecDepth 100000 in
set_option maxHeartbeats 400000 in
theorem toNum_high (w : World) (hE : Env w) (h l X : Int) (a : Wn h l X) (hX : X < 2 ^ 124) (hX0 : 4611686018427387904 ≤ X) : Calls Tryz.prog 210 #[.agg #[.int .u64 h, .int .u64 l]] w (DnPost w X 0) := by
  have HE := Lib.hid hE
  have HWn := Lib.hid a
  obtain ⟨_, y0, y1, y2⟩ := lo62 a hX
  obtain ⟨a1, a2, a3, a4, a5⟩ := a
  have hm := and_mask l a3 a4
  obtain ⟨lo, hlo⟩ : ∃ r, l % 4611686018427387904 = r := ⟨_, rfl⟩
  obtain ⟨Y, hY⟩ : ∃ r, X / 2 ^ 62 = r := ⟨_, rfl⟩
  rw [hlo] at hm y2
  rw [hY] at y0 y1 y2
  have hlo0 : 0 ≤ lo ∧ lo < 4611686018427387904 := by omega
  rw [show (2 : Int) ^ 62 = 4611686018427387904 from rfl] at y1 y2
  have HX : Hid (0 ≤ lo ∧ lo < 4611686018427387904 ∧ 0 < Y ∧ Y < 4611686018427387904 ∧ X = Y * 4611686018427387904 + lo) := Lib.hid ⟨hlo0.1, hlo0.2, by omega, y1, y2⟩
  have hr : Hid (∀ W1, Calls Tryz.prog 141 #[.agg #[.int .u64 h, .int .u64 l], .int .i64 62] W1 (WPost W1 Y)) := Lib.hid (fun W1 => by
    have := wright_any W1 h l X HWn.out 62 (by omega)
    rwa [hY] at this)
  have c1 : IntKind.i64.wrap lo = lo := IntWalk.i64_in _ (by omega)
  have c2 : IntKind.i64.wrap Y = Y := IntWalk.i64_in _ (by omega)
  have hne : (Y == 0) = false := by simp; have := HX.out; omega
  clear hE a5 hX hX0 hlo hY y0 y1 y2 hlo0
  go_enter Tryz.func210, Tryz.ntmps210
  go_wp2_with fail
  have HT := boxes2n w #[.int .u64 h, .int .u64 l] #[.bool false, .slice none 0 0, .slice none 0 0, .int .i64 0] 26 47
  refine (int_any _ (HE.out.below HT.out.1) lo (by have := HX.out; omega) (by have := HX.out; omega)).mono ?_
  rintro en w1 ⟨v1, rfl, hv, hb⟩
  obtain ⟨s, o, lx, c, o2, l2, c2', q, rfl⟩ := hv.shape
  have HT1 := Lib.hid (HT.out.next hb)
  have HV := Lib.hid hv
  clear hb hv
  have cA := HT1.out.2.1.cell
  have lA := HT1.out.2.1.lt
  go_wp2_with fail
  refine (hr.out _).mono ?_
  rintro en w2 ⟨h3, l3, rfl, W3, hb⟩
  have HT2 := Lib.hid ((HT1.out.next ((Below.refl _ _).alloc (Nat.le_refl _) _)).next hb)
  have HS2 := Lib.hid ((Box.new w1 #[.bool s, .slice o lx c, .slice o2 l2 c2', .int .i64 q] 47).below hb)
  have HV2 := Lib.hid ((HV.out.below ((Below.refl _ _).alloc (Nat.le_refl _) _)).below hb)
  obtain ⟨q1, q2, q3, q4, q5⟩ := W3
  obtain rfl : Y = l3 := by have := HX.out; omega
  clear hb cA lA q1 q2 q3 q4 q5
  generalize hg : w.heap.size = g at *
  have HG := Lib.hid hg
  clear hg
  have hne1 : ¬ g + 1 = w1.heap.size := by have := HT1.out.2.2.lt; omega
  have hne2 : ¬ w1.heap.size = g + 1 := by omega
  generalize hgs : w1.heap.size = gs at *
  clear hgs
  go_wp2_with fail
  have d0 : w2.cell? ⟨gs, 0, none⟩ = some (.bool s) := HS2.out.cell 0
  have d1 : w2.cell? ⟨gs, 1, none⟩ = some (.slice o lx c) := HS2.out.cell 1
  have d2 : w2.cell? ⟨gs, 2, none⟩ = some (.slice o2 l2 c2') := HS2.out.cell 2
  have d3 : w2.cell? ⟨gs, 3, none⟩ = some (.int .i64 q) := HS2.out.cell 3
  have H0 : Hid (Two w w2.drew g #[.int .u64 h, .int .u64 l] #[.bool false, .slice none 0 0, .slice none 0 0, .int .i64 0] ∧ Box w2.drew gs #[.bool s, .slice o lx c, .slice o2 l2 c2', .int .i64 q] ∧ Dn w2.drew (.agg #[.bool s, .slice o lx c, .slice o2 l2 c2', .int .i64 q]) lo 0) := Lib.hid ⟨HT2.out.next ((Drw.step w2 1).below _), HS2.out.below ((Drw.step w2 1).below _), HV2.out.below ((Drw.step w2 1).below _)⟩
  have step : ∀ (W1 W2 : World), Hid (Two w W1 g #[.int .u64 h, .int .u64 l] #[.bool false, .slice none 0 0, .slice none 0 0, .int .i64 0] ∧ Box W1 gs #[.bool s, .slice o lx c, .slice o2 l2 c2', .int .i64 q] ∧ Dn W1 (.agg #[.bool s, .slice o lx c, .slice o2 l2 c2', .int .i64 q]) lo 0) → Below W1.heap.size W1 W2 → Hid (Two w W2 g #[.int .u64 h, .int .u64 l] #[.bool false, .slice none 0 0, .slice none 0 0, .int .i64 0] ∧ Box W2 gs #[.bool s, .slice o lx c, .slice o2 l2 c2', .int .i64 q] ∧ Dn W2 (.agg #[.bool s, .slice o lx c, .slice o2 l2 c2', .int .i64 q]) lo 0) ∧ W2.cell? ⟨gs, 0, none⟩ = some (.bool s) ∧ W2.cell? ⟨gs, 1, none⟩ = some (.slice o lx c) ∧ W2.cell? ⟨gs, 2, none⟩ = some (.slice o2 l2 c2') ∧ W2.cell? ⟨gs, 3, none⟩ = some (.int .i64 q) := fun W1 W2 a b =>
    ⟨Lib.hid ⟨a.out.1.next b, a.out.2.1.below b, a.out.2.2.below b⟩, (a.out.2.1.below b).cell 0, (a.out.2.1.below b).cell 1, (a.out.2.1.below b).cell 2, (a.out.2.1.below b).cell 3⟩
  have HSt := Lib.hid step
  clear step HT2 HS2 HV2
  have hY : Hid (-sml < Y ∧ Y < sml ∧ -sml < Y * 4611686018427387904 ∧ Y * 4611686018427387904 < sml ∧ -sml < lo ∧ lo < sml) := Lib.hid (by
    have h1 := sml62
    rw [show (2 : Int) ^ 130 = 1361129467683753853853498429727072845824 from rfl] at h1
    have := HX.out
    omega)
  have KS : Hid (∀ (W1 : World) (v : Value), Hid (Dn W1 v Y 0) → Calls Tryz.prog 197 #[v, .int .i64 62] W1 (DnPost W1 (Y * 4611686018427387904) 0)) := Lib.hid (fun W1 v hv => by
    refine (shifted_any W1 v Y 0 62 hv.out ⟨hY.out.1, hY.out.2.1⟩ (by omega) (by omega)).mono ?_
    rintro en w' ⟨v', rfl, hv', hb⟩
    have hv2 := hv'.scale 62
    rw [show (0 : Int) + 62 - ((62 : Nat) : Int) = 0 by omega, show (2 : Int) ^ 62 = 4611686018427387904 from rfl] at hv2
    exact ⟨v', rfl, hv2, hb⟩)
  have KA : Hid (∀ (W1 : World) (v : Value), Hid (Dn W1 v (Y * 4611686018427387904) 0) → Hid (Two w W1 g #[.int .u64 h, .int .u64 l] #[.bool false, .slice none 0 0, .slice none 0 0, .int .i64 0] ∧ Box W1 gs #[.bool s, .slice o lx c, .slice o2 l2 c2', .int .i64 q] ∧ Dn W1 (.agg #[.bool s, .slice o lx c, .slice o2 l2 c2', .int .i64 q]) lo 0) → Calls Tryz.prog 30 #[v, .agg #[.bool s, .slice o lx c, .slice o2 l2 c2', .int .i64 q]] W1 (DnPost W1 X 0)) := Lib.hid (fun W1 v hv hH => by
    have := add_any W1 (HE.out.below hH.out.1.1) v _ (Y * 4611686018427387904) lo 0 hv.out hH.out.2.2 ⟨hY.out.2.2.1, hY.out.2.2.2.1⟩ ⟨hY.out.2.2.2.2.1, hY.out.2.2.2.2.2⟩ (by omega)
    rwa [← HX.out.2.2.2.2] at this)
  go_region_held3 (fun w' => w'.cell? ⟨gs, 0, none⟩ = some (.bool s) ∧ w'.cell? ⟨gs, 1, none⟩ = some (.slice o lx c) ∧ w'.cell? ⟨gs, 2, none⟩ = some (.slice o2 l2 c2') ∧ w'.cell? ⟨gs, 3, none⟩ = some (.int .i64 q)) (first | (simp [go_sem, hne1, hne2, e30, e31, e32, e33]; done) | exact ⟨e30, e31, e32, e33⟩ | exact ⟨e20, e21, e22, e23⟩ | exact ⟨e10, e11, e12, e13⟩ | exact ⟨d0, d1, d2, d3⟩)
    (first
      | (go_at_call 135; refine (int_any _ (HE.out.below H0.out.1.1) Y (by have := HX.out; omega) (by have := HX.out; omega)).mono ?_; rintro en w3 ⟨v3, rfl, hv, hb⟩; obtain ⟨s3, o3, l3', c3, o32, l32, c32, q3, rfl⟩ := hv.shape; obtain ⟨H1, e10, e11, e12, e13⟩ := HSt.out _ _ H0 hb; have V1 := Lib.hid hv; clear hv hb)
      | (go_at_call 197; (with_reducible refine (KS.out _ _ V1).mono ?_); rintro en w4 ⟨v4, rfl, hv, hb⟩; obtain ⟨s4, o4, l4, c4, o42, l42, c42, q4, rfl⟩ := hv.shape; obtain ⟨H2, e20, e21, e22, e23⟩ := HSt.out _ _ H1 hb; have V2 := Lib.hid hv; clear hv hb)
      | (go_at_call 30; (with_reducible refine (KA.out _ _ V2 H2).mono ?_); rintro en w5 ⟨v5, rfl, hv, hb⟩; obtain ⟨s5, o5, l5, c5, o52, l52, c52, q5, rfl⟩ := hv.shape; obtain ⟨H3, e30, e31, e32, e33⟩ := HSt.out _ _ H2 hb; have cC := H3.out.1.2.2.cell; have fC := H3.out.1.2.2.free; have V3 := Lib.hid hv; clear hv hb))
  have lC := H3.out.1.2.2.lt
  clear e10 e11 e12 e13 e20 e21 e22 e23 e30 e31 e32 e33
  go_wp2_with fail
  refine bodyPost_ret (v := .agg #[.bool s5, .slice o5 l5 c5, .slice o52 l52 c52, .int .i64 q5]) (by simp [results, Tryz.results210, go_sem, cC, lC]) rfl ?_
  have ho := Stored.only (g + 1) w5 s5 o5 l5 c5 o52 l52 c52 q5
  have hn := V3.out.only ho H3.out.1.2.2.noW
  exact ⟨_, rfl, hn, H3.out.1.1.trans (ho.below H3.out.1.1.size (by have := HG.out; omega))⟩

theorem toNum_any (w : World) (hE : Env w) (h l X : Int) (a : Wn h l X) (hX : X < 2 ^ 124) : Calls Tryz.prog 210 #[.agg #[.int .u64 h, .int .u64 l]] w (DnPost w X 0) := by
  by_cases h0 : X < 4611686018427387904
  · exact toNum_low w hE h l X a h0
  · exact toNum_high w hE h l X a hX (by omega)
end Go.Proofs.YtnpocnckkaddbaaGreatDoor
/-
  Contract of package floats's toWord.
-/
namespace Go.Proofs.YtnpocnckkaddbaaGreatDoor
open Go.RowKit Go.Shelf
attribute [local go_sem] eqNil neqNil

set_option maxRecDepth 100000 in
set_option maxHeartbeats 400000 in
theorem toWord_small (w : World) (v : Value) (K : Int) (h : Dn w v K 0) (h0 : 0 ≤ K) (hK : K < 9223372036854775808) : Calls Tryz.prog 230 #[v] w (WPost w K) := by
  have hs : K < sml := by
    have := sml62
    rw [show (2 : Int) ^ 130 = 1361129467683753853853498429727072845824 from rfl] at this
    omega
  obtain ⟨s, o, l, c, o2, l2, c2, q, rfl⟩ := h.shape
  have hi : Hid (∀ W, Below w.heap.size w W → Calls Tryz.prog 258 #[.agg #[.bool s, .slice o l c, .slice o2 l2 c2, .int .i64 q]] W (TwoPost W K 0)) := Lib.hid (fun W hb => (int64_any W _ K (h.below hb) h0 hs).1 hK)
  have HW : Hid (Wn 0 K K) := Lib.hid ⟨by omega, by omega, h0, by omega, by omega⟩
  have x1 : IntKind.u64.wrap K = K := by rw [IntKind.wrap_u64]; omega
  clear h hs h0 hK
  go_enter Tryz.func230, Tryz.ntmps230
  go_wp2_with fail
  have HT := boxes2n w #[.bool s, .slice o l c, .slice o2 l2 c2, .int .i64 q] #[.int .u64 0, .int .u64 0] 47 26
  refine (hi.out _ HT.out.1).mono ?_
  rintro en w1 ⟨rfl, hb⟩
  have HT1 := Lib.hid (HT.out.next hb)
  clear hb
  have cC := HT1.out.2.2.cell
  have fC := HT1.out.2.2.free
  have lC := HT1.out.2.2.lt
  go_wp2_with fail
  refine bodyPost_ret (v := .agg #[.int .u64 0, .int .u64 K]) (by simp [results, Tryz.results230, go_sem, cC, lC]) rfl ?_
  have ho := stored2 (w.heap.size + 1) w1 (.int .u64 0) (.int .u64 K)
  exact ⟨0, K, rfl, HW.out, HT1.out.1.trans (ho.below HT1.out.1.size (by omega))⟩
end Go.Proofs.YtnpocnckkaddbaaGreatDoor
/-
  A box made in a region and stored to in it.
-/
namespace Go.Proofs.YtnpocnckkaddbaaGreatDoor
open Go.RowKit Go.Shelf

def Lo (w : World) (gl : Nat) (a b c d : Value) : Prop := w.cell? ⟨gl, 0, none⟩ = some a ∧ w.cell? ⟨gl, 1, none⟩ = some b ∧ w.cell? ⟨gl, 2, none⟩ = some c ∧ w.cell? ⟨gl, 3, none⟩ = some d ∧ gl < w.heap.size
theorem Lo.next {w w' : World} {gl : Nat} {a b c d : Value} (h : Lo w gl a b c d) (hb : Below w.heap.size w w') : Lo w' gl a b c d :=
  ⟨(hb.cell h.2.2.2.2).trans h.1, (hb.cell h.2.2.2.2).trans h.2.1, (hb.cell h.2.2.2.2).trans h.2.2.1, (hb.cell h.2.2.2.2).trans h.2.2.2.1, Nat.lt_of_lt_of_le h.2.2.2.2 hb.size⟩
theorem Box.under {w w' : World} {g B : Nat} {A : Array Value} (h : Box w g A) (hb : Below B w w') (hg : g < B) : Box w' g A :=
  ⟨fun o => (hb.cell (p := ⟨g, o, none⟩) hg).trans (h.cell o), fun o => (hb.frozen (p := ⟨g, o, none⟩) hg).trans (h.free o), Nat.lt_of_lt_of_le h.lt hb.size⟩

theorem lowIn {w : World} {g gs gl : Nat} {A B C : Array Value} {vn vh : Value} {K H L : Int} (w5 : World) {s5 : Bool} {o5 : Option Addr} {l5 c5 : Nat} {o52 : Option Addr} {l52 c52 : Nat} {q5 : Int}
    (hgl : gs < gl) (hgg : g + 1 < gs) (hw : w.heap.size = g)
    (h2 : Hid (Two w w5 g A B ∧ Box w5 gs C ∧ Dn w5 vn K 0 ∧ Dn w5 vh H 0)) (hx : Hid (Box w5 gl #[.bool false, .slice none 0 0, .slice none 0 0, .int .i64 0]))
    (hv : Hid (Dn w5 (.agg #[.bool s5, .slice o5 l5 c5, .slice o52 l52 c52, .int .i64 q5]) L 0)) :
    Hid (Two w ((((w5.setCell ⟨gl, 0, none⟩ (.bool s5)).setCell ⟨gl, 1, none⟩ (.slice o5 l5 c5)).setCell ⟨gl, 2, none⟩ (.slice o52 l52 c52)).setCell ⟨gl, 3, none⟩ (.int .i64 q5)) g A B ∧
      Box ((((w5.setCell ⟨gl, 0, none⟩ (.bool s5)).setCell ⟨gl, 1, none⟩ (.slice o5 l5 c5)).setCell ⟨gl, 2, none⟩ (.slice o52 l52 c52)).setCell ⟨gl, 3, none⟩ (.int .i64 q5)) gs C ∧
      Lo ((((w5.setCell ⟨gl, 0, none⟩ (.bool s5)).setCell ⟨gl, 1, none⟩ (.slice o5 l5 c5)).setCell ⟨gl, 2, none⟩ (.slice o52 l52 c52)).setCell ⟨gl, 3, none⟩ (.int .i64 q5)) gl (.bool s5) (.slice o5 l5 c5) (.slice o52 l52 c52) (.int .i64 q5) ∧
      Dn ((((w5.setCell ⟨gl, 0, none⟩ (.bool s5)).setCell ⟨gl, 1, none⟩ (.slice o5 l5 c5)).setCell ⟨gl, 2, none⟩ (.slice o52 l52 c52)).setCell ⟨gl, 3, none⟩ (.int .i64 q5)) vh H 0 ∧
      Dn ((((w5.setCell ⟨gl, 0, none⟩ (.bool s5)).setCell ⟨gl, 1, none⟩ (.slice o5 l5 c5)).setCell ⟨gl, 2, none⟩ (.slice o52 l52 c52)).setCell ⟨gl, 3, none⟩ (.int .i64 q5)) (.agg #[.bool s5, .slice o5 l5 c5, .slice o52 l52 c52, .int .i64 q5]) L 0) := by
  have ho : Only gl w5 _ := Stored.only gl w5 s5 o5 l5 c5 o52 l52 c52 q5
  have X := hx.out
  have hb := ho.below (Nat.le_of_lt X.lt) (Nat.le_refl _)
  obtain ⟨⟨t1, t2, t3⟩, b2, d2, e2⟩ := h2.out
  have cB := X.cell
  have lB := X.lt
  refine Lib.hid ⟨⟨t1.trans (ho.below t1.size (by omega)), t2.under hb (by omega), t3.under hb (by omega)⟩, b2.under hb hgl, ?_, e2.only ho X.noW, hv.out.only ho X.noW⟩
  refine ⟨?_, ?_, ?_, ?_, Nat.lt_of_lt_of_le lB hb.size⟩ <;> simp [go_sem, cB, lB]

theorem lowNew {w : World} {g gs gl : Nat} {A B C : Array Value} {vn vh : Value} {K H L : Int} (w5 : World) {s5 : Bool} {o5 : Option Addr} {l5 c5 : Nat} {o52 : Option Addr} {l52 c52 : Nat} {q5 : Int} (T : TypeId) (hg : w5.heap.size = gl)
    (h2 : Hid (Two w w5 g A B ∧ Box w5 gs C ∧ Dn w5 vn K 0 ∧ Dn w5 vh H 0))
    (hv : Hid (Dn w5 (.agg #[.bool s5, .slice o5 l5 c5, .slice o52 l52 c52, .int .i64 q5]) L 0)) :
    Hid (Two w (w5.alloc (.cells #[.bool s5, .slice o5 l5 c5, .slice o52 l52 c52, .int .i64 q5] T)) g A B ∧
      Box (w5.alloc (.cells #[.bool s5, .slice o5 l5 c5, .slice o52 l52 c52, .int .i64 q5] T)) gs C ∧
      Lo (w5.alloc (.cells #[.bool s5, .slice o5 l5 c5, .slice o52 l52 c52, .int .i64 q5] T)) gl (.bool s5) (.slice o5 l5 c5) (.slice o52 l52 c52) (.int .i64 q5) ∧
      Dn (w5.alloc (.cells #[.bool s5, .slice o5 l5 c5, .slice o52 l52 c52, .int .i64 q5] T)) vh H 0 ∧
      Dn (w5.alloc (.cells #[.bool s5, .slice o5 l5 c5, .slice o52 l52 c52, .int .i64 q5] T)) (.agg #[.bool s5, .slice o5 l5 c5, .slice o52 l52 c52, .int .i64 q5]) L 0) := by
  subst hg
  have hb : Below w5.heap.size w5 (w5.alloc (.cells #[.bool s5, .slice o5 l5 c5, .slice o52 l52 c52, .int .i64 q5] T)) := (Below.refl _ _).alloc (Nat.le_refl _) _
  have hn := Box.new w5 #[.bool s5, .slice o5 l5 c5, .slice o52 l52 c52, .int .i64 q5] T
  exact Lib.hid ⟨h2.out.1.next hb, h2.out.2.1.below hb, ⟨hn.cell 0, hn.cell 1, hn.cell 2, hn.cell 3, hn.lt⟩, h2.out.2.2.2.below hb, hv.out.below hb⟩
end Go.Proofs.YtnpocnckkaddbaaGreatDoor
