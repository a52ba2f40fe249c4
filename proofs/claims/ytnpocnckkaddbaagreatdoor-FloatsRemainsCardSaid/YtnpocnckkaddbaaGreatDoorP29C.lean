/-
  awake: in every world that holds the listed tables it returns true.
-/
import Derived.Test.YtnpocnckkaddbaaGreatDoorP08
import Derived.Test.YtnpocnckkaddbaaGreatDoorP29B
set_option linter.unusedVariables false
set_option linter.unusedSimpArgs false
set_option linter.unusedSectionVars false
namespace Go.Proofs.YtnpocnckkaddbaaGreatDoor
open Go.RowKit Go.Shelf Go.Canon

/-- the tables that a law reads -/
def TL : Tabs := ⟨1, [(0, osTab), (9, tab10)]⟩
theorem gTL : TL.g < Tryz.prog.globals.size := of_decide_eq_true (by kernel_rfl)
theorem roTL : ∀ p ∈ TL.ro, p.1 < Tryz.prog.globals.size ∧ p.2.all (ground 3) = true ∧ p.1 ≠ TL.g := fun p hp => by
  rcases List.mem_cons.1 hp with rfl | hp
  · exact ⟨of_decide_eq_true (by kernel_rfl), rfl, by decide⟩
  · rcases List.mem_cons.1 hp with rfl | hp
    · exact ⟨of_decide_eq_true (by kernel_rfl), by kernel_rfl, by decide⟩
    · cases hp
theorem roTL2 : ∀ p ∈ TL.ro, p.1 < Tryz.prog.globals.size ∧ p.2.all (ground 3) = true := fun p hp => ⟨(roTL p hp).1, (roTL p hp).2.1⟩
theorem tab64_eq : tab64 = Lib.deBruijn64tab.map fun z : Nat => Value.int .u8 z := by kernel_rfl
theorem awake_con : Con Tryz.prog TL 22 [] ⟨none, .bool true⟩ := fun w hw he args' ha => by
  have h0 : args' = #[] := by
    have := areArs_nil ha
    simpa using this
  subst h0
  refine (awake_calls w hw fun p hp => ?_).mono fun e w1 ⟨h1, h2⟩ => ⟨_, h1, rfl, h2⟩
  obtain ⟨⟨o, ho, c, e, f, rfl, ht⟩, hr⟩ := he
  rcases List.mem_cons.1 hp with rfl | hp
  · refine ⟨c, e, f, ho, fun i v hv => ?_⟩
    rw [tab64_eq, List.getElem?_map] at hv
    cases hg : Lib.deBruijn64tab[i]? with
    | none => rw [hg] at hv; cases hv
    | some z =>
      rw [hg] at hv
      obtain ⟨hlt, hz⟩ := List.getElem?_eq_some_iff.1 hg
      rw [ht i hlt]
      rw [List.getD_eq_getElem?_getD, hg]
      exact hv
  · exact hr p hp
def awakeS (xs : List Ar) : Option Res := match xs with
  | [] => some ⟨none, .bool true⟩
  | _ => none
def awakeO : CF → St → Option (Value × St) := oracle 22 (conSpec TL (fun _ => true) awakeS)
theorem awakeO_ok : RunOkE Tryz.prog awakeO := con_oracle numG gTL roTL2 fun xs R h hp => by
  unfold awakeS at h
  split at h
  · injection h with h
    subst h
    exact awake_con
  · cases h
end Go.Proofs.YtnpocnckkaddbaaGreatDoor
