/-
  The reference's Next: what it returns. Cmp and Next of machine and reference as answers of calls.
-/
import Derived.Test.YtaeekmlnfjimjaaGreatDoorP48
set_option linter.unusedVariables false
set_option linter.unusedSimpArgs false
set_option linter.unusedSectionVars false
namespace Go.Proofs.YtaeekmlnfjimjaaGreatDoor
open Go.RowKit Go.Shelf Go.Canon

def rdC : CF → St → Option (Value × St) := orElse rAskO (orElse rIsO (orElse rLookO (orElse flipO rNextUO)))
theorem rdC_ok : RunOkE Tryz.prog rdC := orElse_ok rAskO_ok (orElse_ok rIsO_ok (orElse_ok rLookO_ok (orElse_ok flipO_ok rNextUO_ok)))
noncomputable def rdRun (E P X : Int) (an : List Bool) (n : Nat) : Option (Value × Option CObj × List (Bool × Bool)) := conRun Tryz.prog TR (nest rdC 6) 1000 25 [.v (fmtW E P), .v (wordV X), .v (.bool false)] an n
def rd_a_cs (E P X : Int) (na : Bool) : List (Bool × Bool) := [(true, true), (decide (Fmt E P) && wB (wordV (aboveOf E P (wX (wordV (flipOf E P (wX (wordV X))))))), true), (true, true), (wB (wordV (flipOf E P (wX (wordV X)))) && decide (nxE E P (wX (wordV (flipOf E P (wX (wordV X))))) = 0), true), (decide (Fmt E P) && wB (wordV X), true), (askE E P 0 != 0, false), (kindOf E P (wX (wordV X)) == 5, false), (true, true), (kindOf E P (wX (wordV X)) == 4, false), (true, true), (negOf E P (wX (wordV X)), na), (decide (Fmt E P) && (wB (wordV X) && decide (wX (wordV X) < 2 * signOf E P)), true), (askE E P 0 == 0, true), (false, false), ((decide (wX (wordV X) < 2 * signOf E P)), true), (decide (Fmt E P) && wB (wordV X), true), (true, true), (askE E P 0 == 0, true), (true, true), (true, true)]
set_option maxRecDepth 1000000 in
theorem rd_a (E P X : Int) (na : Bool) : rdRun E P X [true, true, true, false, true, na, false, false, false, true] 1 = some (.tuple #[wordV (flipOf E P (wX (wordV (aboveOf E P (wX (wordV (flipOf E P (wX (wordV X))))))))), .int .i64 0], some (.fact 0), rd_a_cs E P X na) := by kernel_rfl

theorem rnext_word {E P X : Int} (up : Bool) (x0 : 0 ≤ X) (x1 : X < two128) : Con Tryz.prog TR 25 [.v (fmtW E P), .v (wordV X), .v (.bool up)] ⟨none, nxRes E P X up⟩ := by
  cases up
  case true => exact rnext_up x0 x1
  case false =>
  have g := ground3 (fmtW E P) (wordV X) (.bool false) rfl rfl rfl
  have ok := nest_ok rnC_ok 6
  have bX : wB (wordV X) = true := wB_wordV x0 x1
  unfold nxRes
  by_cases h : Fmt E P
  · have m2 : decide (Fmt E P) = true := decide_eq_true h
    have a0 : (askE E P 0 == 0) = true := by unfold askE; rw [if_neg (by omega), if_pos h]; rfl
    have a1 : (askE E P 0 != 0) = false := by unfold askE; rw [if_neg (by omega), if_pos h]; rfl
    have fX : (decide (Fmt E P) && wB (wordV X)) = true := by rw [bX, m2]; rfl
    by_cases hX : X < 2 * signOf E P
    · have lX : decide (wX (wordV X) < 2 * signOf E P) = true := by rw [wX_wordV]; exact decide_eq_true hX
      have gX : (decide (Fmt E P) && (wB (wordV X) && decide (wX (wordV X) < 2 * signOf E P))) = true := by rw [bX, lX, m2]; rfl
      have kX := kind_range E P X
      have nX : negOf E P (wX (wordV X)) = negOf E P X := by rw [wX_wordV]
      have eW : wErr E P [X] = 0 := by unfold wErr; rw [if_pos h, if_pos (all1.2 hX)]
      by_cases x4 : kindOf E P X = 4
      · have d1 := kk_t x4
        have eN : nxE E P X = 4 := by unfold nxE; rw [if_pos eW, if_pos (.inl x4)]
        rw [eN, if_neg (by decide)]
        exact con_plain ok (rn_q0 E P X (negOf E P (wX (wordV X)))) (by simp only [rn_q0_cs, List.forall_mem_cons]; (repeat' apply And.intro) <;> first | exact True.intro | with_reducible rfl | with_reducible assumption | (intro c hc; cases hc) | (simp [nX]; done)) (by simp) g rfl rfl
      have d1 := kk_f x4
      by_cases x5 : kindOf E P X = 5
      · have d2 := kk_t x5
        have eN : nxE E P X = 4 := by unfold nxE; rw [if_pos eW, if_pos (.inr x5)]
        rw [eN, if_neg (by decide)]
        exact con_plain ok (rn_s0 E P X (negOf E P (wX (wordV X)))) (by simp only [rn_s0_cs, List.forall_mem_cons]; (repeat' apply And.intro) <;> first | exact True.intro | with_reducible rfl | with_reducible assumption | (intro c hc; cases hc) | (simp [nX]; done)) (by simp) g rfl rfl
      have d2 := kk_f x5
      have eN : nxE E P X = 0 := by unfold nxE; rw [if_pos eW, if_neg (by omega)]
      rw [eN, if_pos rfl]
      have hs := sign_range h
      obtain ⟨f0, f1⟩ := flip_range x0 hX
      have kf : kindOf E P (flipOf E P X) = kindOf E P X := kind_flip h x0 hX
      obtain ⟨c0, c1⟩ := above_range h f0 f1 (by omega)
      have bF : wB (wordV (flipOf E P X)) = true := wB_wordV f0 (by omega)
      have bA : wB (wordV (aboveOf E P (flipOf E P X))) = true := wB_wordV c0 (by omega)
      have eF : nxE E P (flipOf E P X) = 0 := by unfold nxE wErr; rw [if_pos h, if_pos (all1.2 f1), if_pos rfl, if_neg (by omega)]
      have p1 : (wB (wordV (flipOf E P (wX (wordV X)))) && decide (nxE E P (wX (wordV (flipOf E P (wX (wordV X))))) = 0)) = true := by
        rw [wX_wordV, wX_wordV, bF, eF]; rfl
      have p2 : (decide (Fmt E P) && wB (wordV (aboveOf E P (wX (wordV (flipOf E P (wX (wordV X)))))))) = true := by
        rw [wX_wordV, wX_wordV, bA, m2]; rfl
      exact con_plain (nest_ok rdC_ok 6) (rd_a E P X (negOf E P (wX (wordV X)))) (by simp only [rd_a_cs, List.forall_mem_cons]; (repeat' apply And.intro) <;> first | exact True.intro | with_reducible rfl | with_reducible assumption | (intro c hc; cases hc) | (simp [nX]; done)) (by simp) g (by rw [wX_wordV, wX_wordV, wX_wordV]; rfl) rfl
    · have lX : decide (wX (wordV X) < 2 * signOf E P) = false := by rw [wX_wordV]; exact decide_eq_false hX
      have eN : nxE E P X = 6 := by unfold nxE wErr; rw [if_pos h, if_neg (fun hc => hX (all1.1 hc)), if_neg (by decide)]
      rw [eN, if_neg (by decide)]
      exact con_plain ok (rn_x0 E P X) (by simp only [rn_x0_cs, List.forall_mem_cons]; (repeat' apply And.intro) <;> first | exact True.intro | with_reducible rfl | with_reducible assumption | (intro c hc; cases hc) | (simp []; done)) (by simp) g rfl rfl
  · have e2 : askE E P 0 = 2 := by unfold askE; rw [if_neg (by omega), if_neg h]
    have a0 : (askE E P 0 == 0) = false := by rw [e2]; rfl
    have a1 : (askE E P 0 != 0) = true := by rw [e2]; rfl
    have eN : nxE E P X = 2 := by unfold nxE wErr; rw [if_neg h, if_neg (by decide)]
    rw [eN, if_neg (by decide)]
    exact con_plain ok (rn_e0 E P X) (by simp only [rn_e0_cs, List.forall_mem_cons]; (repeat' apply And.intro) <;> first | exact True.intro | with_reducible rfl | with_reducible assumption | (intro c hc; cases hc) | (simp []; done)) (by simp) g (by rw [e2]) rfl

/-! as answers -/
def cO (E P X Y : Int) : Int := if wErr E P [X, Y] = 0 then cOrd E P X Y else 0
def cF (E P X Y : Int) : Int := if wErr E P [X, Y] = 0 then cFlg E P X Y else 0
def cmTup (E P X Y : Int) : Value := .tuple #[.int .i64 (cO E P X Y), .int .i64 (cF E P X Y), .int .i64 (wErr E P [X, Y])]
theorem cm_tup (E P X Y : Int) : cmRes E P X Y = cmTup E P X Y := by
  unfold cmRes cmTup cO cF
  by_cases h : wErr E P [X, Y] = 0
  · rw [if_pos h, if_pos h, if_pos h, h]; rfl
  · rw [if_neg h, if_neg h, if_neg h]; rfl
def nW (E P X : Int) (up : Bool) : Int := if nxE E P X = 0 then nxW E P X up else 0
def nxTup (E P X : Int) (up : Bool) : Value := .tuple #[wordV (nW E P X up), .int .i64 (nxE E P X)]
theorem nx_tup (E P X : Int) (up : Bool) : nxRes E P X up = nxTup E P X up := by
  unfold nxRes nxTup nW
  by_cases h : nxE E P X = 0
  · rw [if_pos h, if_pos h, h]
  · rw [if_neg h, if_neg h]; rfl
def cmFS (xs : List Ar) : Option Res := match xs with
  | [.v a, .v b, .v c] => match fmt2 a with
    | some (E, P) => some (⟨none, .tuple #[.int .i64 (cO E P (wX b) (wX c)), .int .i64 (cF E P (wX b) (wX c)), .int .i64 (wErr E P [wX b, wX c])]⟩ : Res)
    | none => none
  | _ => none
def cmFP (xs : List Ar) : Bool := match xs with
  | [.v _, .v b, .v c] => wB b && wB c
  | _ => false
theorem cm_oracle {g : FuncId} (hc : ∀ {E P X Y : Int}, 0 ≤ X → X < two128 → 0 ≤ Y → Y < two128 → Con Tryz.prog TR g [.v (fmtW E P), .v (wordV X), .v (wordV Y)] ⟨none, cmRes E P X Y⟩) : RunOkE Tryz.prog (oracle g (conSpec TR cmFP cmFS)) := con_oracle numG gTR roTR2 fun xs R h hp => by
  unfold cmFS at h
  split at h
  · split at h
    · rename_i E P hm
      injection h with h
      subst h
      unfold cmFP at hp
      simp only [Bool.and_eq_true] at hp
      rw [fmt2_ok hm]
      have h2 := wX_range hp.1
      have h3 := wX_range hp.2
      have := hc (E := E) (P := P) h2.1 h2.2 h3.1 h3.2
      rw [← wB_eq hp.1, ← wB_eq hp.2, cm_tup] at this
      exact this
    · cases h
  · cases h
def nxFS (xs : List Ar) : Option Res := match xs with
  | [.v a, .v b, .v (.bool u)] => match fmt2 a with
    | some (E, P) => some (⟨none, .tuple #[wordV (nW E P (wX b) u), .int .i64 (nxE E P (wX b))]⟩ : Res)
    | none => none
  | _ => none
def nxFP (xs : List Ar) : Bool := match xs with
  | [.v _, .v b, .v (.bool _)] => wB b
  | _ => false
theorem nx_oracle {g : FuncId} (hc : ∀ {E P X : Int} (up : Bool), 0 ≤ X → X < two128 → Con Tryz.prog TR g [.v (fmtW E P), .v (wordV X), .v (.bool up)] ⟨none, nxRes E P X up⟩) : RunOkE Tryz.prog (oracle g (conSpec TR nxFP nxFS)) := con_oracle numG gTR roTR2 fun xs R h hp => by
  unfold nxFS at h
  split at h
  · split at h
    · rename_i u _ E P hm
      injection h with h
      subst h
      unfold nxFP at hp
      simp only at hp
      rw [fmt2_ok hm]
      have h2 := wX_range hp
      have := hc (E := E) (P := P) u h2.1 h2.2
      rw [← wB_eq hp, nx_tup] at this
      exact this
    · cases h
  · cases h
def mCmpO : CF → St → Option (Value × St) := oracle 22 (conSpec TR cmFP cmFS)
theorem mCmpO_ok : RunOkE Tryz.prog mCmpO := cm_oracle cmp_word
def qCmpO : CF → St → Option (Value × St) := oracle 23 (conSpec TR cmFP cmFS)
theorem qCmpO_ok : RunOkE Tryz.prog qCmpO := cm_oracle rcmp_word
def mNextO : CF → St → Option (Value × St) := oracle 24 (conSpec TR nxFP nxFS)
theorem mNextO_ok : RunOkE Tryz.prog mNextO := nx_oracle next_word
def qNextO : CF → St → Option (Value × St) := oracle 25 (conSpec TR nxFP nxFS)
theorem qNextO_ok : RunOkE Tryz.prog qNextO := nx_oracle rnext_word
end Go.Proofs.YtaeekmlnfjimjaaGreatDoor
