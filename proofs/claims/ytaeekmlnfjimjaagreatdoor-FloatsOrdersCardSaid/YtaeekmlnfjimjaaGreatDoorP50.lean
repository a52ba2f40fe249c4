/-
  FloatsOrders: the paths of the law; it returns true whatever its argument. Condition: E, P, m any numbers, the halves of the words below 2^64.
-/
import Derived.Test.YtaeekmlnfjimjaaGreatDoorP49
import Derived.Test.YtaeekmlnfjimjaaGreatDoorP26
import Derived.Test.YtaeekmlnfjimjaaGreatDoorP27
set_option linter.unusedVariables false
set_option linter.unusedSimpArgs false
set_option linter.unusedSectionVars false
namespace Go.Proofs.YtaeekmlnfjimjaaGreatDoor
open Go.RowKit Go.Shelf Go.Canon

def olC : CF → St → Option (Value × St) := orElse awakeO (orElse mCmpO (orElse qCmpO (orElse mNextO qNextO)))
theorem olC_ok : RunOkE Tryz.prog olC := orElse_ok awakeO_ok (orElse_ok mCmpO_ok (orElse_ok qCmpO_ok (orElse_ok mNextO_ok qNextO_ok)))
noncomputable def olRun (E P m ah al bh bl ch cl : Int) (an : List Bool) (n : Nat) : Option (Value × Option CObj × List (Bool × Bool)) := conRun Tryz.prog TL (nest olC 1) 1000 4 [.v (opV E P m ah al bh bl ch cl)] an n
def ol_a_cs (E P m ah al bh bl ch cl : Int) : List (Bool × Bool) := [(true, true), (true, true), (false, false), (nxE E P (wX (wv ah al)) != nxE E P (wX (wv ah al)), false), (!decide (nW E P (wX (wv ah al)) false / 18446744073709551616 = nW E P (wX (wv ah al)) false / 18446744073709551616 ∧ nW E P (wX (wv ah al)) false % 18446744073709551616 = nW E P (wX (wv ah al)) false % 18446744073709551616), false), (true, true), (wB (wv ah al), true), (false, false), (true, true), (wB (wv ah al), true), (false, false), (true, true), (nxE E P (wX (wv ah al)) != nxE E P (wX (wv ah al)), false), (!decide (nW E P (wX (wv ah al)) true / 18446744073709551616 = nW E P (wX (wv ah al)) true / 18446744073709551616 ∧ nW E P (wX (wv ah al)) true % 18446744073709551616 = nW E P (wX (wv ah al)) true % 18446744073709551616), false), (true, true), (wB (wv ah al), true), (true, true), (true, true), (wB (wv ah al), true), (true, true), (true, true), (wErr E P [wX (wv ah al), wX (wv bh bl)] != wErr E P [wX (wv ah al), wX (wv bh bl)], false), (cF E P (wX (wv ah al)) (wX (wv bh bl)) != cF E P (wX (wv ah al)) (wX (wv bh bl)), false), (cO E P (wX (wv ah al)) (wX (wv bh bl)) != cO E P (wX (wv ah al)) (wX (wv bh bl)), false), (wB (wv ah al) && wB (wv bh bl), true), (wB (wv ah al) && wB (wv bh bl), true)]
set_option maxRecDepth 1000000 in
theorem ol_a (E P m ah al bh bl ch cl : Int) : olRun E P m ah al bh bl ch cl [false, false, false, true, true, true, false, false, true, false, false, false, false, false, true, true] 1 = some (.bool true, some (.fact 0), ol_a_cs E P m ah al bh bl ch cl) := by kernel_rfl

theorem ord_law {E P m ah al bh bl ch cl : Int} (hA : wB (wv ah al) = true) (hB : wB (wv bh bl) = true) : Con Tryz.prog TL 4 [.v (opV E P m ah al bh bl ch cl)] ⟨none, .bool true⟩ := by
  have g : ∀ x, Ar.v x ∈ [Ar.v (opV E P m ah al bh bl ch cl)] → ground 9 x = true := fun x hx => by
    simp at hx; subst hx; rfl
  have p1 : (wB (wv ah al) && wB (wv bh bl)) = true := by rw [hA, hB]; rfl
  exact con_of_run numG noCountP mixedP gTL roTL sizeP (nest_ok olC_ok 1) (by simp) g (ol_a E P m ah al bh bl ch cl) (by simp only [ol_a_cs, List.forall_mem_cons]; (repeat' apply And.intro) <;> first | exact True.intro | with_reducible rfl | with_reducible assumption | (intro c hc; cases hc) | (simp []; done)) ⟨rfl, rfl⟩
end Go.Proofs.YtaeekmlnfjimjaaGreatDoor
