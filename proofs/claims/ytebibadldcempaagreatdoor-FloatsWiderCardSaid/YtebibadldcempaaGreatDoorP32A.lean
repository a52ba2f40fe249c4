/-
  A format as an argument of a law, read as data. No conditions.
-/
import Derived.Test.YtebibadldcempaaGreatDoorP27A
set_option linter.unusedVariables false
set_option linter.unusedSimpArgs false
set_option linter.unusedSectionVars false
namespace Go.Proofs.YtebibadldcempaaGreatDoor
open Go.ChangeShapes Go.WideShapes Go.RowKit Go.Canon
section
variable {H : Type} {enc : TypeId × Value → H} {w : World} {base : Nat} {sp : Nat → Bool} {held : Bool}
theorem open_fmt {v : Value} {d : DataW H} {ps : List MemPlace} (h : DataW.Trod enc Tryz.prog w base sp held 23 v d ps) : ∃ E P, v = fmtV E P ∧ d = datF E P ∧ ps = [] ∧ (Lit.int .i64 E).wf = true ∧ (Lit.int .i64 P).wf = true := by
  obtain ⟨fuel, hy⟩ := h
  obtain ⟨a, b, h1, h2, h3, h4⟩ := trod_fmt hy
  have hlen : v.cells.toList.length = 2 := by rw [h1]; rfl
  have hv : ∃ c : Array Value, v = .agg c := by
    cases v <;> first | exact ⟨_, rfl⟩ | simp [Value.cells] at hlen
  obtain ⟨c, rfl⟩ := hv
  obtain ⟨c⟩ := c
  have hcs : (Value.agg ⟨c⟩).cells.toList = c := rfl
  rw [hcs] at h1
  subst h1
  injection h2 with h5 h6
  exact ⟨a, b, rfl, h5, h6, h3, h4⟩
theorem shut_fmt {E P : Int} (h1 : (Lit.int .i64 E).wf = true) (h2 : (Lit.int .i64 P).wf = true) : DataW.Trod enc Tryz.prog w base sp held 23 (fmtV E P) (datF E P) [] := by
  refine ⟨3, ?_⟩
  simp [DataW.trod, fmtV, datF, Value.cells, Tryz.underlying23, Tryz.underlying3, c3, c23, h1, h2, List.range, List.range.loop]
end
end Go.Proofs.YtebibadldcempaaGreatDoor
