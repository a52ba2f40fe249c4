/-
  From what a row lists of the package-level variables to the canonical state.
-/
import Derived.Test.YtjdjmeiahchblaaGreatDoorCanU
import Derived.Lib.LaidTab
import GoSem.ClaimJoined
namespace Go.Canon
open Go.RowKit Go.Lib

theorem laid_mem {P : Program} {w : World} {n : String} {d : DataW Unit} : ∀ {laid : List (String × DataW Unit)} {ps : List MemPlace}, DataW.LaidVars P w laid ps → (n, d) ∈ laid →
    ∃ g t cs fuel p, P.globalNamed n = some g ∧ (P.globals[g]?).map (·.type) = some t ∧ w.var? P n = some cs ∧ DataW.trod (fun _ => ()) P w 0 (fun _ => true) false fuel t cs.toList = some (d, p)
  | [], _, _, h => by cases h
  | (n', d') :: r, ps, ⟨g, t, cs, fuel, p, q, h1, h2, h3, h4, h5, _⟩, h => by
    cases h with
    | head _ => exact ⟨g, t, cs, fuel, p, h1, h2, h3, h4⟩
    | tail _ h => exact laid_mem h5 h
theorem tab_of_laid {P : Program} {W : World} {name : String} {k : IntKind} {zs : List Int} {laid : List (String × DataW Unit)} {g : Nat} {t e : TypeId} {n : Nat}
    (hm : (name, tabData k zs) ∈ laid) (hg : P.globalNamed name = some g) (hty : (P.globals[g]?).map (·.type) = some t) (ht : P.underlying t = some (.array n e)) (he : P.underlying e = some (.int k)) (hce : P.cellsOf e = 1) (hct : P.cellsOf t = n)
    (h : laidMet P laid W) : ∃ e f, W.heap[g]? = some (.cells ⟨zs.map fun z => Value.int k z⟩ e f) := by
  obtain ⟨ps, hl, _⟩ := h
  obtain ⟨g', t', cs, fuel, p, hg', ht', hvar, hd⟩ := laid_mem hl hm
  obtain rfl := Option.some.inj (hg.symm.trans hg')
  obtain rfl := Option.some.inj (hty.symm.trans ht')
  have hcs := cells_of_tab ht he hce hct hd
  simp only [World.var?, hg, Option.bind_some] at hvar
  split at hvar
  · rename_i c e f hh
    injection hvar with hvar
    subst hvar
    refine ⟨e, f, ?_⟩
    rw [hh, ← hcs]
  · cases hvar

def ngB (P : Program) : Bool := P.funcs.toList.all fun fn => fn.body.isNone || !(fn.name == "runtime.NumGoroutine")
theorem ng_of {P : Program} (h : ngB P = true) : NG P := by
  intro f fn hf hb
  unfold ngB at h
  rw [List.all_eq_true] at h
  have := h fn (by
    have := Array.mem_of_getElem? hf
    simpa using this)
  have h2 : fn.body.isNone = false := by cases e : fn.body <;> simp_all
  rw [h2, Bool.false_or] at this
  simpa using this
end Go.Canon
