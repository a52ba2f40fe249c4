/-
  Which way a rest goes; the mode of a size; what lies beyond.
-/
import Derived.Test.YtnpocnckkaddbaaGreatDoorP25E
set_option linter.unusedVariables false
set_option linter.unusedSimpArgs false
set_option linter.unusedSectionVars false
namespace Go.Proofs.YtnpocnckkaddbaaGreatDoor
open Go.RowKit Go.Shelf Go.Canon

/-! roundsUp -/
def upOf (m : Int) (odd : Bool) (r : Int) : Bool :=
  if m = 3 then r != 0 else if m = 0 then (if r = 2 ∧ odd = false then false else decide (r ≥ 2)) else if m = 1 then decide (r ≥ 2) else false
noncomputable def upCheck (m : Int) (odd : Bool) (r : Int) : Bool :=
  match conRun Tryz.prog TR noCall 1000 180 [.v (.int .i64 m), .v (.bool odd), .v (.int .i64 r)] [] 1 with
  | some (.bool b, _, []) => b == upOf m odd r
  | _ => false
set_option maxRecDepth 1000000 in
theorem up_all : ([0, 1, 2, 3, 4].all fun m => [true, false].all fun o => [0, 1, 2, 3].all fun r => upCheck m o r) = true := by kernel_rfl
theorem up_con {m r : Int} (odd : Bool) (h0 : 0 ≤ m) (h1 : m ≤ 4) (h2 : 0 ≤ r) (h3 : r ≤ 3) : Con Tryz.prog TR 180 [.v (.int .i64 m), .v (.bool odd), .v (.int .i64 r)] ⟨none, .bool (upOf m odd r)⟩ := by
  have h := up_all
  rw [List.all_eq_true] at h
  have hm := h m (by simp; omega)
  rw [List.all_eq_true] at hm
  have ho := hm odd (by cases odd <;> simp)
  rw [List.all_eq_true] at ho
  have hr := ho r (by simp; omega)
  unfold upCheck at hr
  split at hr
  · rename_i b o hrun
    refine con_plain (noCall_ok _) hrun (fun c hc => by cases hc) (by simp) (fun x hx => by simp at hx; rcases hx with rfl | rfl | rfl <;> rfl) ?_ rfl
    rw [eq_of_beq hr]
  · cases hr
def upS (xs : List Ar) : Option Res := match xs with
  | [.v (.int .i64 m), .v (.bool o), .v (.int .i64 r)] => some (⟨none, .bool (upOf m o r)⟩ : Res)
  | _ => none
def upP (xs : List Ar) : Bool := match xs with
  | [.v (.int .i64 m), .v (.bool _), .v (.int .i64 r)] => decide (0 ≤ m ∧ m ≤ 4 ∧ 0 ≤ r ∧ r ≤ 3)
  | _ => false
def upO : CF → St → Option (Value × St) := oracle 180 (conSpec TR upP upS)
theorem upO_ok : RunOkE Tryz.prog upO := con_oracle numG gTR roTR2 fun xs R h hp => by
  unfold upS at h
  split at h
  · injection h with h
    subst h
    unfold upP at hp
    obtain ⟨h1, h2, h3, h4⟩ := of_decide_eq_true hp
    exact up_con _ h1 h2 h3 h4
  · cases h

/-! sizeMode -/
def modeOf (m : Int) (neg : Bool) : Int := if neg = true then (if m = 3 then 4 else if m = 4 then 3 else m) else m
noncomputable def modeRun (E P m : Int) (neg : Bool) : Option (Value × Option CObj × List (Bool × Bool)) := conRun Tryz.prog TR noCall 1000 173 [.v (machV E P m), .v (.bool neg)] [] 1
set_option maxRecDepth 1000000 in
theorem mode_0 (E P : Int) (neg : Bool) : modeRun E P 0 true = some (.int .i64 0, some (.fact 0), []) ∧ modeRun E P 0 false = some (.int .i64 0, some (.fact 0), []) := ⟨by kernel_rfl, by kernel_rfl⟩
set_option maxRecDepth 1000000 in
theorem mode_1 (E P : Int) (neg : Bool) : modeRun E P 1 true = some (.int .i64 1, some (.fact 0), []) ∧ modeRun E P 1 false = some (.int .i64 1, some (.fact 0), []) := ⟨by kernel_rfl, by kernel_rfl⟩
set_option maxRecDepth 1000000 in
theorem mode_2 (E P : Int) (neg : Bool) : modeRun E P 2 true = some (.int .i64 2, some (.fact 0), []) ∧ modeRun E P 2 false = some (.int .i64 2, some (.fact 0), []) := ⟨by kernel_rfl, by kernel_rfl⟩
set_option maxRecDepth 1000000 in
theorem mode_3 (E P : Int) (neg : Bool) : modeRun E P 3 true = some (.int .i64 4, some (.fact 0), []) ∧ modeRun E P 3 false = some (.int .i64 3, some (.fact 0), []) := ⟨by kernel_rfl, by kernel_rfl⟩
set_option maxRecDepth 1000000 in
theorem mode_4 (E P : Int) (neg : Bool) : modeRun E P 4 true = some (.int .i64 3, some (.fact 0), []) ∧ modeRun E P 4 false = some (.int .i64 4, some (.fact 0), []) := ⟨by kernel_rfl, by kernel_rfl⟩
theorem mode_con {E P m : Int} (neg : Bool) (h0 : 0 ≤ m) (h1 : m ≤ 4) : Con Tryz.prog TR 173 [.v (machV E P m), .v (.bool neg)] ⟨none, .int .i64 (modeOf m neg)⟩ := by
  have g : ∀ m, ∀ x, Ar.v x ∈ [Ar.v (machV E P m), .v (.bool neg)] → ground 9 x = true := fun m x hx => by
    simp at hx; rcases hx with rfl | rfl <;> rfl
  have fin : ∀ {m v : Int}, modeRun E P m neg = some (.int .i64 v, some (.fact 0), []) → v = modeOf m neg → Con Tryz.prog TR 173 [.v (machV E P m), .v (.bool neg)] ⟨none, .int .i64 (modeOf m neg)⟩ := fun h e =>
    con_plain (noCall_ok _) h (fun c hc => by cases hc) (by simp) (g _) (by rw [e]) rfl
  rcases (show m = 0 ∨ m = 1 ∨ m = 2 ∨ m = 3 ∨ m = 4 by omega) with rfl | rfl | rfl | rfl | rfl <;> cases neg
  · exact fin (mode_0 E P true).2 rfl
  · exact fin (mode_0 E P true).1 rfl
  · exact fin (mode_1 E P true).2 rfl
  · exact fin (mode_1 E P true).1 rfl
  · exact fin (mode_2 E P true).2 rfl
  · exact fin (mode_2 E P true).1 rfl
  · exact fin (mode_3 E P true).2 rfl
  · exact fin (mode_3 E P true).1 rfl
  · exact fin (mode_4 E P true).2 rfl
  · exact fin (mode_4 E P true).1 rfl
def modeS (xs : List Ar) : Option Res := match xs with
  | [.v a, .v (.bool b)] => match mach3 a with
    | some (_, _, m) => some (⟨none, .int .i64 (modeOf m b)⟩ : Res)
    | none => none
  | _ => none
def modeP (xs : List Ar) : Bool := match xs with
  | [.v a, .v (.bool _)] => match mach3 a with
    | some (_, _, m) => decide (0 ≤ m ∧ m ≤ 4)
    | none => false
  | _ => false
def modeO : CF → St → Option (Value × St) := oracle 173 (conSpec TR modeP modeS)
theorem modeO_ok : RunOkE Tryz.prog modeO := con_oracle numG gTR roTR2 fun xs R h hp => by
  unfold modeS at h
  split at h
  · split at h
    · rename_i hm
      injection h with h
      subst h
      unfold modeP at hp
      simp only [hm] at hp
      rw [mach3_ok hm]
      exact mode_con _ (of_decide_eq_true hp).1 (of_decide_eq_true hp).2
    · cases h
  · cases h
end Go.Proofs.YtnpocnckkaddbaaGreatDoor
