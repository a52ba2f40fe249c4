/-
  The reference's functions by runs: what they share.
-/
import Derived.Test.YtaeekmlnfjimjaaGreatDoorP34
import Derived.Test.YtaeekmlnfjimjaaGreatDoorP37
import Derived.Test.YtaeekmlnfjimjaaGreatDoorP38
set_option linter.unusedVariables false
set_option linter.unusedSimpArgs false
set_option linter.unusedSectionVars false
namespace Go.Proofs.YtaeekmlnfjimjaaGreatDoor
open Go.RowKit Go.Shelf Go.Canon

theorem con_toR {g : FuncId} {xs : List Ar} {T : Tabs} {K D K' D' : Int} {t : Value} (h : Con Tryz.prog T g xs ⟨some (.r K D), t⟩) (h0 : 0 < D') (he : K * D' = K' * D) : Con Tryz.prog T g xs ⟨some (.r K' D'), t⟩ :=
  con_imp h fun w v ⟨x, h1, h2⟩ => ⟨x, is_rq.2 ((is_rq.1 h1).cross h0 he), h2⟩
/-- a run's number of the reference as a result -/
theorem con_ref {call : CF → St → Option (Value × St)} (hcall : RunOkE Tryz.prog call) {g : Nat} {xs : List Ar} {an : List Bool} {n : Nat} {t : Value} {K D K' D' : Int} {cs : List (Bool × Bool)}
    (h : conRun Tryz.prog TR call 1000 g xs an n = some (subst n 4 t, some (.ghost 2 [K, D]), cs)) (hcs : ∀ c ∈ cs, c.1 = c.2) (hlen : xs.length < 2 ^ 38) (hgr : ∀ x, Ar.v x ∈ xs → ground 9 x = true) (ht : tplB 4 t = true) (h0 : 0 < D') (he : K * D' = K' * D) : Con Tryz.prog TR g xs ⟨some (.r K' D'), t⟩ :=
  con_toR (con_sym hcall h hcs hlen hgr ⟨rfl, ht, rfl⟩) h0 he
end Go.Proofs.YtaeekmlnfjimjaaGreatDoor
