/-
  read and Value: contracts.
-/
import Derived.Test.YtjomebgpnokboaaGreatDoorP23
set_option linter.unusedVariables false
set_option linter.unusedSimpArgs false
set_option linter.unusedSectionVars false
namespace Go.Proofs.YtjomebgpnokboaaGreatDoor
open Go.RowKit Go.Shelf Go.Canon

def rdErr (E P X : Int) : Int := if Fmt E P then (if 2 * signOf E P ≤ X then 6 else 0) else 2
def rdK (E P X : Int) : Int := if rdErr E P X = 0 then opK E P X else 0
def rdKind (E P X : Int) : Int := if rdErr E P X = 0 then kindOf E P X else 0
def rdNeg (E P X : Int) : Bool := if rdErr E P X = 0 then negOf E P X else false
def opRE (kind : Int) (neg : Bool) (K k e : Int) : Res := ⟨some (K, k), .tuple #[opT kind neg K, .int .i64 e]⟩
theorem opZE_is {w : World} {v : Value} {kind k e : Int} {neg : Bool} (h : ResIs w ⟨none, .tuple #[opZ kind neg, .int .i64 e]⟩ v) : ResIs w (opRE kind neg 0 k e) v := by
  have q : v = .tuple #[opZ kind neg, .int .i64 e] := h
  subst q
  refine ⟨zeroA, is_zero w k, fun ρ n hn => ?_⟩
  exact VRel.tuple_of (LRel.arel (l := [_, _]) (l' := [_, _]) ⟨VRel.agg_of (LRel.arel (l := [_, _, _, _, _, _]) (l' := [_, _, _, _, _, _]) ⟨.int _ _, .bool _, .bool _, .tok _ 1 _ _ hn rfl rfl, .tok _ 2 _ _ hn rfl rfl, .tok _ 3 _ _ hn rfl rfl, trivial⟩), .int _ _, trivial⟩)
theorem groundFX (E P X : Int) : ∀ x, Ar.v x ∈ [Ar.v (fmtV E P), .v (wordV X)] → ground 9 x = true := fun x hx => by
  simp at hx; rcases hx with rfl | rfl <;> rfl
theorem read_con {E P X : Int} (h0 : 0 ≤ X) (h1 : X < two128) : Con Tryz.prog TR 37 [.v (fmtV E P), .v (wordV X)] (opRE (rdKind E P X) (rdNeg E P X) (rdK E P X) (fineOf E P) (rdErr E P X)) := by
  have g := groundFX E P X
  have bX : wB (wordV X) = true := wB_wordV h0 h1
  by_cases h : Fmt E P
  · have hc : chkE E P = 0 := by unfold chkE; rw [if_pos h]
    have hw : IntKind.i64.wrap (E + P) = E + P := wrapI (by obtain ⟨a, b, c, d, e⟩ := h; omega)
    have h2 : (2 : Int) ^ (E + P).toNat = 2 * signOf E P := by
      obtain ⟨a, b, c, d, e⟩ := h
      unfold signOf
      rw [show (E + P).toNat = (E + P - 1).toNat + 1 by omega, Int.pow_succ]; omega
    have hs := sign_range h
    have hq0 : 0 ≤ X / (2 * signOf E P) := Int.ediv_nonneg h0 (by omega)
    have hqz : (X / (2 * signOf E P) = 0) ↔ X < 2 * signOf E P := by
      constructor
      · intro hz
        have := Int.mul_ediv_add_emod X (2 * signOf E P)
        have := Int.emod_lt_of_pos X (show 0 < 2 * signOf E P by omega)
        rw [hz] at *
        omega
      · intro hl; exact Int.ediv_eq_zero_of_lt h0 hl
    have c0 : ∀ far, (!decide (X < 2 * signOf E P)) = far → ∀ c ∈ rcs0 E P X far, c.1 = c.2 := by
      intro far hf
      unfold rcs0
      simp only [List.forall_mem_cons, wX_wordV, hw, h2, hc, bX]
      refine ⟨?_, ?_, trivial, trivial, trivial, trivial, trivial, by simp, trivial, trivial, trivial, by simp, by simp, by simp, trivial, fun c hc => by cases hc⟩
      · rw [← hf]
        congr 2
        apply propext
        rw [← hqz]
        omega
      · rw [decide_eq_true (show 0 ≤ E + P ∧ E + P ≤ 127 by obtain ⟨a, b, c, d, e⟩ := h; omega)]; rfl
    by_cases hX : 2 * signOf E P ≤ X
    · have he : rdErr E P X = 6 := by unfold rdErr; rw [if_pos h, if_pos hX]
      have hK : rdK E P X = 0 := by unfold rdK; rw [if_neg (by omega)]
      have hk : rdKind E P X = 0 := by unfold rdKind; rw [if_neg (by omega)]
      have hn : rdNeg E P X = false := by unfold rdNeg; rw [if_neg (by omega)]
      rw [he, hK, hk, hn]
      exact con_imp (con_plain readX_ok (read_far E P X) (by simp only [List.forall_mem_cons]; exact ⟨trivial, trivial, c0 _ (by rw [decide_eq_false (by omega)]; rfl)⟩) (by simp) g rfl rfl) fun w v hr => opZE_is hr
    · have he : rdErr E P X = 0 := by unfold rdErr; rw [if_pos h, if_neg hX]
      have hK : rdK E P X = opK E P X := by unfold rdK; rw [if_pos he]
      have hk : rdKind E P X = kindOf E P X := by unfold rdKind; rw [if_pos he]
      have hn : rdNeg E P X = negOf E P X := by unfold rdNeg; rw [if_pos he]
      rw [he, hK, hk, hn]
      have c1 : ∀ neg, negOf E P X = neg → ∀ c ∈ rcs1 E P X neg, c.1 = c.2 := by
        intro neg hneg
        unfold rcs1
        simp only [List.forall_mem_cons, wX_wordV]
        exact ⟨trivial, trivial, by simp, by simp, trivial, trivial, hneg, by simp [h, bX]; omega, c0 _ (by rw [decide_eq_true (by omega)]; rfl)⟩
      cases hneg : negOf E P X
      · have hrun := read_f E P X
        rw [wX_wordV] at hrun
        exact con_sym readX_ok hrun (c1 _ hneg) (by simp) g ⟨rfl, rfl, rfl⟩
      · have hrun := read_t E P X
        rw [wX_wordV] at hrun
        exact con_sym readX_ok hrun (c1 _ hneg) (by simp) g ⟨rfl, rfl, rfl⟩
  · have he : rdErr E P X = 2 := by unfold rdErr; rw [if_neg h]
    have hK : rdK E P X = 0 := by unfold rdK; rw [if_neg (by omega)]
    have hk : rdKind E P X = 0 := by unfold rdKind; rw [if_neg (by omega)]
    have hn : rdNeg E P X = false := by unfold rdNeg; rw [if_neg (by omega)]
    rw [he, hK, hk, hn]
    exact con_imp (con_plain readX_ok (read_bad E P X) (by simp [chkE, h]) (by simp) g rfl rfl) fun w v hr => opZE_is hr
def readS (xs : List Ar) : Option Res := match xs with
  | [.v a, .v b] => match fmt2 a with
    | some (E, P) => some (opRE (rdKind E P (wX b)) (rdNeg E P (wX b)) (rdK E P (wX b)) (fineOf E P) (rdErr E P (wX b)))
    | none => none
  | _ => none
def readP (xs : List Ar) : Bool := match xs with
  | [.v _, .v b] => wB b
  | _ => false
def readO : CF → St → Option (Value × St) := oracle 37 (conSpec TR readP readS)
theorem readO_ok : RunOkE Tryz.prog readO := con_oracle numG gTR roTR2 fun xs R h hp => by
  unfold readS at h
  split at h
  · split at h
    · rename_i hm
      injection h with h
      subst h
      unfold readP at hp
      simp only at hp
      rw [fmt2_ok hm, wB_eq hp, wX_wordV]
      exact read_con (wX_range hp).1 (wX_range hp).2
    · cases h
  · cases h
end Go.Proofs.YtjomebgpnokboaaGreatDoor
/-
  Value: its contract.
-/
namespace Go.Proofs.YtjomebgpnokboaaGreatDoor
open Go.RowKit Go.Shelf Go.Canon

def vcs0 (E P X : Int) (neg e : Bool) : List (Bool × Bool) := [(rdErr E P (wX (wordV X)) != 0, e), (true, true), (rdNeg E P (wX (wordV X)), neg), (wB (wordV X), true)]
def vcs1 (E P X : Int) (neg a : Bool) : List (Bool × Bool) := (rdKind E P (wX (wordV X)) != 2, a) :: (true, true) :: vcs0 E P X neg false
def vcs2 (E P X : Int) (neg b : Bool) : List (Bool × Bool) := (rdKind E P (wX (wordV X)) != 1, b) :: (true, true) :: vcs1 E P X neg true
noncomputable def valRun (E P X : Int) (an : List Bool) (n : Nat) : Option (Value × Option CObj × List (Bool × Bool)) := conRun Tryz.prog TR readO 1000 12 [.v (fmtV E P), .v (wordV X)] an n
set_option maxRecDepth 1000000 in
theorem val_t_e (E P X : Int) : valRun E P X [true, true, true] 0 = some (.tuple #[.agg zeroA, .int .i64 (rdErr E P (wX (wordV X)))], some (.fact 0), (true, true) :: vcs0 E P X true true) := by kernel_rfl
set_option maxRecDepth 1000000 in
theorem val_t_n (E P X : Int) : valRun E P X [true, false, true, true, true] 0 = some (.tuple #[.agg zeroA, .int .i64 4], some (.fact 0), (true, true) :: vcs2 E P X true true) := by kernel_rfl
set_option maxRecDepth 1000000 in
theorem val_t_z (E P X : Int) : valRun E P X [true, false, true, false, true] 16 = some (.tuple #[subst 16 4 (numT (rdK E P (wX (wordV X)))), .int .i64 0], some (.ghost 0 [rdK E P (wX (wordV X)), fineOf E P]), (true, true) :: vcs2 E P X true false) := by kernel_rfl
set_option maxRecDepth 1000000 in
theorem val_t_f (E P X : Int) : valRun E P X [true, false, false, true] 16 = some (.tuple #[subst 16 4 (numT (rdK E P (wX (wordV X)))), .int .i64 0], some (.ghost 0 [rdK E P (wX (wordV X)), fineOf E P]), (true, true) :: vcs1 E P X true false) := by kernel_rfl
set_option maxRecDepth 1000000 in
theorem val_f_e (E P X : Int) : valRun E P X [false, true, true] 0 = some (.tuple #[.agg zeroA, .int .i64 (rdErr E P (wX (wordV X)))], some (.fact 0), (true, true) :: vcs0 E P X false true) := by kernel_rfl
set_option maxRecDepth 1000000 in
theorem val_f_n (E P X : Int) : valRun E P X [false, false, true, true, true] 0 = some (.tuple #[.agg zeroA, .int .i64 4], some (.fact 0), (true, true) :: vcs2 E P X false true) := by kernel_rfl
set_option maxRecDepth 1000000 in
theorem val_f_z (E P X : Int) : valRun E P X [false, false, true, false, true] 16 = some (.tuple #[subst 16 4 (numT (rdK E P (wX (wordV X)))), .int .i64 0], some (.ghost 0 [rdK E P (wX (wordV X)), fineOf E P]), (true, true) :: vcs2 E P X false false) := by kernel_rfl
set_option maxRecDepth 1000000 in
theorem val_f_f (E P X : Int) : valRun E P X [false, false, false, true] 16 = some (.tuple #[subst 16 4 (numT (rdK E P (wX (wordV X)))), .int .i64 0], some (.ghost 0 [rdK E P (wX (wordV X)), fineOf E P]), (true, true) :: vcs1 E P X false false) := by kernel_rfl

/-- the error of Value -/
def vErr (E P X : Int) : Int := if rdErr E P X = 0 then (if rdKind E P X = 2 ∨ rdKind E P X = 1 then 0 else 4) else rdErr E P X
def vK (E P X : Int) : Int := if vErr E P X = 0 then rdK E P X else 0
theorem zeroE_is {w : World} {v : Value} {k e : Int} (h : ResIs w ⟨none, .tuple #[.agg zeroA, .int .i64 e]⟩ v) : ResIs w (resNE 0 k e) v := by
  have q : v = .tuple #[.agg zeroA, .int .i64 e] := h
  subst q
  refine ⟨zeroA, is_zero w k, fun ρ n hn => ?_⟩
  exact VRel.tuple_of (LRel.arel (l := [_, _]) (l' := [_, _]) ⟨VRel.agg_of (LRel.arel (l := [_, _, _, _]) (l' := [_, _, _, _]) ⟨.bool _, .tok _ 1 _ _ hn rfl rfl, .tok _ 2 _ _ hn rfl rfl, .tok _ 3 _ _ hn rfl rfl, trivial⟩), .int _ _, trivial⟩)
theorem value_con {E P X : Int} (h0 : 0 ≤ X) (h1 : X < two128) : Con Tryz.prog TR 12 [.v (fmtV E P), .v (wordV X)] (resNE (vK E P X) (fineOf E P) (vErr E P X)) := by
  have g := groundFX E P X
  have bX : wB (wordV X) = true := wB_wordV h0 h1
  have c0 : ∀ neg e, rdNeg E P X = neg → (rdErr E P X != 0) = e → ∀ c ∈ vcs0 E P X neg e, c.1 = c.2 := by
    intro neg e e1 e2
    unfold vcs0
    simp only [List.forall_mem_cons, wX_wordV]
    exact ⟨e2, trivial, e1, bX, fun c hc => by cases hc⟩
  have c1 : ∀ neg a, rdNeg E P X = neg → rdErr E P X = 0 → (rdKind E P X != 2) = a → ∀ c ∈ vcs1 E P X neg a, c.1 = c.2 := by
    intro neg a e1 e2 e3
    unfold vcs1
    simp only [List.forall_mem_cons, wX_wordV]
    exact ⟨e3, trivial, c0 _ _ e1 (by simp [e2])⟩
  have c2 : ∀ neg b, rdNeg E P X = neg → rdErr E P X = 0 → (rdKind E P X != 2) = true → (rdKind E P X != 1) = b → ∀ c ∈ vcs2 E P X neg b, c.1 = c.2 := by
    intro neg b e1 e2 e3 e4
    unfold vcs2
    simp only [List.forall_mem_cons, wX_wordV]
    exact ⟨e4, trivial, c1 _ _ e1 e2 e3⟩
  cases hn : rdNeg E P X
  · by_cases he : rdErr E P X = 0
    · by_cases hk : rdKind E P X = 2
      · have hv : vErr E P X = 0 := by unfold vErr; rw [if_pos he, if_pos (.inl hk)]
        have hK : vK E P X = rdK E P X := by unfold vK; rw [if_pos hv]
        rw [hv, hK]
        have hrun := val_f_f E P X
        rw [wX_wordV] at hrun
        exact con_sym readO_ok hrun (by simp only [List.forall_mem_cons]; exact ⟨trivial, c1 _ _ hn he (by simp [hk])⟩) (by simp) g ⟨rfl, rfl, rfl⟩
      · by_cases hk1 : rdKind E P X = 1
        · have hv : vErr E P X = 0 := by unfold vErr; rw [if_pos he, if_pos (.inr hk1)]
          have hK : vK E P X = rdK E P X := by unfold vK; rw [if_pos hv]
          rw [hv, hK]
          have hrun := val_f_z E P X
          rw [wX_wordV] at hrun
          exact con_sym readO_ok hrun (by simp only [List.forall_mem_cons]; exact ⟨trivial, c2 _ _ hn he (by simp [hk]) (by simp [hk1])⟩) (by simp) g ⟨rfl, rfl, rfl⟩
        · have hv : vErr E P X = 4 := by unfold vErr; rw [if_pos he, if_neg (by omega)]
          have hK : vK E P X = 0 := by unfold vK; rw [if_neg (by omega)]
          rw [hv, hK]
          exact con_imp (con_plain readO_ok (val_f_n E P X) (by simp only [List.forall_mem_cons]; exact ⟨trivial, c2 _ _ hn he (by simp [hk]) (by simp [hk1])⟩) (by simp) g rfl rfl) fun w v hr => zeroE_is hr
    · have hv : vErr E P X = rdErr E P X := by unfold vErr; rw [if_neg he]
      have hK : vK E P X = 0 := by unfold vK; rw [if_neg (by omega)]
      rw [hv, hK]
      have hrun := val_f_e E P X
      rw [wX_wordV] at hrun
      exact con_imp (con_plain readO_ok hrun (by simp only [List.forall_mem_cons]; exact ⟨trivial, c0 _ _ hn (by simp [he])⟩) (by simp) g rfl rfl) fun w v hr => zeroE_is hr
  · by_cases he : rdErr E P X = 0
    · by_cases hk : rdKind E P X = 2
      · have hv : vErr E P X = 0 := by unfold vErr; rw [if_pos he, if_pos (.inl hk)]
        have hK : vK E P X = rdK E P X := by unfold vK; rw [if_pos hv]
        rw [hv, hK]
        have hrun := val_t_f E P X
        rw [wX_wordV] at hrun
        exact con_sym readO_ok hrun (by simp only [List.forall_mem_cons]; exact ⟨trivial, c1 _ _ hn he (by simp [hk])⟩) (by simp) g ⟨rfl, rfl, rfl⟩
      · by_cases hk1 : rdKind E P X = 1
        · have hv : vErr E P X = 0 := by unfold vErr; rw [if_pos he, if_pos (.inr hk1)]
          have hK : vK E P X = rdK E P X := by unfold vK; rw [if_pos hv]
          rw [hv, hK]
          have hrun := val_t_z E P X
          rw [wX_wordV] at hrun
          exact con_sym readO_ok hrun (by simp only [List.forall_mem_cons]; exact ⟨trivial, c2 _ _ hn he (by simp [hk]) (by simp [hk1])⟩) (by simp) g ⟨rfl, rfl, rfl⟩
        · have hv : vErr E P X = 4 := by unfold vErr; rw [if_pos he, if_neg (by omega)]
          have hK : vK E P X = 0 := by unfold vK; rw [if_neg (by omega)]
          rw [hv, hK]
          exact con_imp (con_plain readO_ok (val_t_n E P X) (by simp only [List.forall_mem_cons]; exact ⟨trivial, c2 _ _ hn he (by simp [hk]) (by simp [hk1])⟩) (by simp) g rfl rfl) fun w v hr => zeroE_is hr
    · have hv : vErr E P X = rdErr E P X := by unfold vErr; rw [if_neg he]
      have hK : vK E P X = 0 := by unfold vK; rw [if_neg (by omega)]
      rw [hv, hK]
      have hrun := val_t_e E P X
      rw [wX_wordV] at hrun
      exact con_imp (con_plain readO_ok hrun (by simp only [List.forall_mem_cons]; exact ⟨trivial, c0 _ _ hn (by simp [he])⟩) (by simp) g rfl rfl) fun w v hr => zeroE_is hr
def valueS (xs : List Ar) : Option Res := match xs with
  | [.v a, .v b] => match fmt2 a with
    | some (E, P) => some (resNE (vK E P (wX b)) (fineOf E P) (vErr E P (wX b)))
    | none => none
  | _ => none
def valueO : CF → St → Option (Value × St) := oracle 12 (conSpec TR readP valueS)
theorem valueO_ok : RunOkE Tryz.prog valueO := con_oracle numG gTR roTR2 fun xs R h hp => by
  unfold valueS at h
  split at h
  · split at h
    · rename_i hm
      injection h with h
      subst h
      unfold readP at hp
      simp only at hp
      rw [fmt2_ok hm, wB_eq hp, wX_wordV]
      exact value_con (wX_range hp).1 (wX_range hp).2
    · cases h
  · cases h
end Go.Proofs.YtjomebgpnokboaaGreatDoor
