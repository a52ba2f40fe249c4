/-
  What one word of a format stands for, or its error.
-/
import Derived.Test.YtaeekmlnfjimjaaGreatDoorP25
import Derived.Test.YtaeekmlnfjimjaaGreatDoorP08
set_option linter.unusedVariables false
set_option linter.unusedSimpArgs false
set_option linter.unusedSectionVars false
namespace Go.Proofs.YtaeekmlnfjimjaaGreatDoor
open Go.RowKit Go.Shelf Go.Canon

def fmtV (E P : Int) : Value := .agg #[.int .i64 E, .int .i64 P]
def chkE (E P : Int) : Int := if Fmt E P then 0 else 2
end Go.Proofs.YtaeekmlnfjimjaaGreatDoor
/-
  Add of numbers: its runs.
-/
namespace Go.Proofs.YtaeekmlnfjimjaaGreatDoor
open Go.RowKit Go.Shelf Go.Canon

/-- calls within calls -/
noncomputable def nest (c : CF → St → Option (Value × St)) : Nat → CF → St → Option (Value × St)
  | 0 => c
  | n + 1 => orElse c (runO Tryz.prog (nest c n) 1000)
theorem nest_ok {c : CF → St → Option (Value × St)} (h : RunOkE Tryz.prog c) : ∀ n, RunOkE Tryz.prog (nest c n)
  | 0 => h
  | n + 1 => orElse_ok h (runO_ok noCountP mixedP (nest_ok h n) 1000).e
def dKind (E P X : Int) : Int := kindOf E P (wX (wordV X))
end Go.Proofs.YtaeekmlnfjimjaaGreatDoor
/-
  What is a value is rounded to itself.
-/
namespace Go.Proofs.YtaeekmlnfjimjaaGreatDoor
open Go.RowKit Go.Shelf Go.Canon

theorem pow_split {a b : Nat} (h : a ≤ b) : (2 : Int) ^ b = 2 ^ (b - a) * 2 ^ a := by rw [← Int.pow_add]; congr 1; omega
end Go.Proofs.YtaeekmlnfjimjaaGreatDoor
/-
  Add of numbers: its contract. The difference of two numbers, each at most twice the other one, is a value.
-/
namespace Go.Proofs.YtaeekmlnfjimjaaGreatDoor
open Go.RowKit Go.Shelf Go.Canon

/-! what numbers are -/
theorem siz_range {E P X : Int} (h0 : 0 ≤ X) (h1 : X < 2 * signOf E P) : 0 ≤ sizW E P X ∧ sizW E P X < signOf E P := by
  unfold sizW sizeOf'; split <;> omega
theorem kind_two {E P X : Int} (h : kindOf E P X = 2) : sizW E P X < infOf E P := by
  unfold kindOf at h
  split at h
  · omega
  · split at h
    · omega
    · split at h
      · assumption
      · split at h <;> omega
theorem val_form {E P X : Int} (h : Fmt E P) (h0 : 0 ≤ X) (h1 : X < 2 * signOf E P) (hk : kindOf E P X = 1 ∨ kindOf E P X = 2) :
    ∃ (d : Int) (e : Nat), ((opK E P X).natAbs : Int) = d * 2 ^ e ∧ 0 ≤ d ∧ d < 2 ^ P.toNat ∧ (e : Int) ≤ 2 * biasOf E - 1 := by
  have hbr := bias_range h.1 h.2.1
  rcases hk with hk | hk
  · refine ⟨0, 0, ?_, by omega, p2pos _, by omega⟩
    unfold opK
    rw [hk]; simp
  · have hs := siz_range (E := E) (P := P) h0 h1
    have hlt := kind_two hk
    obtain ⟨f0, f1, f2, d0, d1, _⟩ := field_facts h hs.1 hlt
    have hbe := bias_eq h.1
    have hP2 : (2 : Int) ^ P.toNat = 2 * 2 ^ (P - 1).toNat := by
      have := h.2.2.1
      rw [show P.toNat = (P - 1).toNat + 1 by omega, Int.pow_succ]; omega
    have hl : 0 ≤ liftOf P (sizW E P X) ∧ liftOf P (sizW E P X) ≤ 2 * biasOf E - 1 := by unfold liftOf; split <;> omega
    refine ⟨digOf P (sizW E P X), (liftOf P (sizW E P X)).toNat, ?_, d0, by omega, by omega⟩
    have hm : 0 ≤ magOf P (sizW E P X) := Int.mul_nonneg d0 (Int.le_of_lt (p2pos _))
    unfold opK
    rw [if_pos hk]
    show _ = magOf P (sizW E P X)
    unfold sgM
    split <;> omega
theorem form_lt {E P d : Int} {e : Nat} (h : Fmt E P) (h0 : 0 ≤ d) (h1 : d < 2 ^ P.toNat) (h2 : (e : Int) ≤ 2 * biasOf E - 1) : d * 2 ^ e < 2 ^ (2 * biasOf E - 1 + P).toNat := by
  have := h.2.2.1
  have h3 : d * 2 ^ e < 2 ^ P.toNat * 2 ^ e := Int.mul_lt_mul_of_pos_right h1 (p2pos e)
  rw [← Int.pow_add] at h3
  have h4 := pow_split (show P.toNat + e ≤ (2 * biasOf E - 1 + P).toNat by omega)
  have h5 := Int.mul_le_mul_of_nonneg_right (show (1 : Int) ≤ 2 ^ ((2 * biasOf E - 1 + P).toNat - (P.toNat + e)) from p2pos _) (Int.le_of_lt (p2pos (P.toNat + e)))
  omega
theorem max_sml {E P : Int} (h : Fmt E P) : (2 : Int) * 2 ^ (2 * biasOf E - 1 + P).toNat < sml := by
  have hbr := bias_range h.1 h.2.1
  obtain ⟨f1, f2, f3, f4, f5⟩ := h
  unfold sml
  have h4 := pow_split (show (2 * biasOf E - 1 + P).toNat ≤ 3000 by omega)
  have h5 := pow_split (show (3000 : Nat) ≤ 60000 by omega)
  have h6 : (4 : Int) ≤ 2 ^ (60000 - 3000) := by
    have := pow_split (show (2 : Nat) ≤ 60000 - 3000 by omega)
    have h7 := p2pos (60000 - 3000 - 2)
    have h8 : (2 : Int) ^ 2 = 4 := by decide
    omega
  have h7 := p2pos (2 * biasOf E - 1 + P).toNat
  have h8 := Int.mul_le_mul_of_nonneg_right (show (1 : Int) ≤ 2 ^ (3000 - (2 * biasOf E - 1 + P).toNat) from p2pos _) (Int.le_of_lt h7)
  have h9 := Int.mul_le_mul_of_nonneg_right h6 (Int.le_of_lt (p2pos 3000))
  have h10 := p2pos 3000
  generalize (2 : Int) ^ 3000 = a at *
  generalize (2 : Int) ^ 60000 = b at *
  generalize (2 : Int) ^ (2 * biasOf E - 1 + P).toNat = c at *
  omega
theorem opK_lt {E P X : Int} (h : Fmt E P) (h0 : 0 ≤ X) (h1 : X < 2 * signOf E P) (hk : kindOf E P X = 1 ∨ kindOf E P X = 2) : ((opK E P X).natAbs : Int) < 2 ^ (2 * biasOf E - 1 + P).toNat := by
  obtain ⟨d, e, h2, h3, h4, h5⟩ := val_form h h0 h1 hk
  rw [h2]; exact form_lt h h3 h4 h5

/-! the contracts -/
theorem upK_same (K k : Int) : upK K k k = K := by unfold upK; rw [show (k - min k k) = 0 by omega]; simp
end Go.Proofs.YtaeekmlnfjimjaaGreatDoor
/-
  awake: in every world that holds the listed tables it returns true.
-/
namespace Go.Proofs.YtaeekmlnfjimjaaGreatDoor
open Go.RowKit Go.Shelf Go.Canon

/-- the tables that a law reads -/
def TL : Tabs := ⟨1, [(0, osTab), (9, tab10)]⟩
theorem gTL : TL.g < Tryz.prog.globals.size := of_decide_eq_true (by kernel_rfl)
theorem roTL : ∀ p ∈ TL.ro, p.1 < Tryz.prog.globals.size ∧ p.2.all (ground 3) = true ∧ p.1 ≠ TL.g := fun p hp => by
  rcases List.mem_cons.1 hp with rfl | hp
  · exact ⟨of_decide_eq_true (by kernel_rfl), rfl, by decide⟩
  · rcases List.mem_cons.1 hp with rfl | hp
    · exact ⟨of_decide_eq_true (by kernel_rfl), by kernel_rfl, by decide⟩
    · cases hp
theorem roTL2 : ∀ p ∈ TL.ro, p.1 < Tryz.prog.globals.size ∧ p.2.all (ground 3) = true := fun p hp => ⟨(roTL p hp).1, (roTL p hp).2.1⟩
theorem tab64_eq : tab64 = Lib.deBruijn64tab.map fun z : Nat => Value.int .u8 z := by kernel_rfl
theorem awake_con : Con Tryz.prog TL 21 [] ⟨none, .bool true⟩ := fun w hw he args' ha => by
  have h0 : args' = #[] := by
    have := areArs_nil ha
    simpa using this
  subst h0
  refine (awake_calls w hw fun p hp => ?_).mono fun e w1 ⟨h1, h2⟩ => ⟨_, h1, rfl, h2⟩
  obtain ⟨⟨o, ho, c, e, f, rfl, ht⟩, hr⟩ := he
  rcases List.mem_cons.1 hp with rfl | hp
  · refine ⟨c, e, f, ho, fun i v hv => ?_⟩
    rw [tab64_eq, List.getElem?_map] at hv
    cases hg : Lib.deBruijn64tab[i]? with
    | none => rw [hg] at hv; cases hv
    | some z =>
      rw [hg] at hv
      obtain ⟨hlt, hz⟩ := List.getElem?_eq_some_iff.1 hg
      rw [ht i hlt]
      rw [List.getD_eq_getElem?_getD, hg]
      exact hv
  · exact hr p hp
def awakeS (xs : List Ar) : Option Res := match xs with
  | [] => some ⟨none, .bool true⟩
  | _ => none
def awakeO : CF → St → Option (Value × St) := oracle 21 (conSpec TL (fun _ => true) awakeS)
theorem awakeO_ok : RunOkE Tryz.prog awakeO := con_oracle numG gTL roTL2 fun xs R h hp => by
  unfold awakeS at h
  split at h
  · injection h with h
    subst h
    exact awake_con
  · cases h
end Go.Proofs.YtaeekmlnfjimjaaGreatDoor
/-
  What the laws of words share: their arguments, the paths' pairs.
-/
namespace Go.Proofs.YtaeekmlnfjimjaaGreatDoor
open Go.RowKit Go.Shelf Go.Canon

def wv (h l : Int) : Value := .agg #[.int .u64 h, .int .u64 l]
def opV (E P m ah al bh bl ch cl : Int) : Value := .agg #[.int .i64 E, .int .i64 P, .int .i64 m, .int .u64 ah, .int .u64 al, .int .u64 bh, .int .u64 bl, .int .u64 ch, .int .u64 cl]
end Go.Proofs.YtaeekmlnfjimjaaGreatDoor
