/-
  Closed calls: what the kernel reckons of the canonical run holds of the call in every world.
-/
import Derived.Test.YtjdjmeiahchblaaGreatDoorCanT
namespace Go.Canon
open Go.RowKit

/-- the package-level variables, where they are -/
def base (P : Program) : Map := fun b => if b < P.globals.size then .hard b else .none

def callR (P : Program) (fuel : Nat) (f : FuncId) (args : Array Value) (s : St) : Option (Value × St) :=
  match enterC P f args with
  | some fr => run P fuel fr s
  | none => none

/-- the call returns true, and writes nothing that was there -/
def closedB (P : Program) (fuel : Nat) (f : FuncId) (args : Array Value) (s : St) : Bool :=
  args.toList.all (ground 9) && match callR P fuel f args s with
  | some (.bool true, s1) => s1.w % 2 ^ s.n == 0
  | _ => false

theorem closed_ok {P : Program} (hP : NG P) (hm : P.follows .mixedOrders = true) {fuel f : Nat} {args : Array Value} {s : St} (h : closedB P fuel f args s = true) (hn : P.globals.size ≤ s.n)
    (w : World) (hw : P.globals.size ≤ w.heap.size) (hat : ∀ b, b < s.n → At (base P) w b (s.t.get b)) :
    Calls P f args w fun e w1 => e = .returned (.bool true) ∧ Below w.heap.size w w1 := by
  unfold closedB callR at h
  rw [Bool.and_eq_true] at h
  obtain ⟨hg, h⟩ := h
  split at h
  · rename_i s1 hr
    split at hr
    · rename_i fr hfr
      obtain ⟨m, hrun⟩ := run_ok hP hm fuel fr s _ s1 hr
      obtain ⟨b, a, he, hrel⟩ := enterC_ok hfr (ARel.ground (ρ := base P) hg)
      have hro : fr.ro = none ∧ fr.fn = f := by
        unfold enterC at hfr
        split at hfr
        · split at hfr
          · split at hfr
            · injection hfr with hfr; subst hfr; exact ⟨rfl, rfl⟩
            · cases hfr
          · cases hfr
        · cases hfr
      have hb0 : b.roundOf = none := by
        rcases hrel.ro with ⟨_, h3⟩ | ⟨l2, l', h3, _⟩
        · exact h3
        · rw [hro.1] at h3; cases h3
      have hinv : Inv s1.fp (base P) s w := by
        refine ⟨fun b hb _ => hat b hb, fun b c x h1 h2 => ?_, fun b x h1 => ?_⟩
        · unfold base at h1 h2
          split at h1
          · split at h2
            · injection h1 with h1; injection h2 with h2; omega
            · cases h2
          · cases h1
        · unfold base at h1
          split at h1
          · injection h1 with h1; omega
          · cases h1
      have hfresh : Fresh (base P) s s1 := fun b h1 _ => by unfold base; rw [if_neg (by omega)]
      have hgr : GR P (base P) := fun g hg => by unfold base; rw [if_pos hg]
      obtain ⟨ρ1, w1, v', i1, e1, hv, hend⟩ := hrun s1.fp (.refl _) (base P) w b a hfresh hinv hgr hrel
      have hv2 := hv.bool_inv
      subst hv2
      intro cs
      obtain ⟨fr1, k1, k2, k3⟩ := hend.leave hb0 cs
      have hno : ∀ b, b < s.n → s1.w.testBit b = false := by
        intro b hb
        have h1 : s1.w % 2 ^ s.n = 0 := by simpa using h
        have h2 := Nat.testBit_mod_two_pow s1.w s.n b
        rw [h1] at h2
        simp [hb] at h2
        exact h2
      refine ⟨.returned (.bool true), w1, fr1, ⟨rfl, e1.os, e1.tape, e1.output, e1.size, fun c hc => e1.heap c hc fun b hb hw _ => ?_⟩, ?_, ?_, k3⟩
      · rw [hno b hb] at hw; cases hw
      · rw [he]; exact k1
      · exact k2.trans (hrel.fn.trans hro.2)
    · cases hr
  · cases h

/-- rows of the program's variables that may be read -/
def roTree : List (Nat × List Value) → Tree CObj → Tree CObj
  | [], t => t
  | p :: l, t => roTree l (t.set 40 p.1 (.ro p.2))
def roState (l : List (Nat × List Value)) (n : Nat) : St := { t := roTree l .leaf, n := n, r := 0, w := 0 }
theorem roTree_get : ∀ (l : List (Nat × List Value)) (t : Tree CObj) (b : Nat), (∀ p ∈ l, p.1 + 1 < 2 ^ 40) → (roTree l t).get b = t.get b ∨ ∃ p ∈ l, p.1 = b ∧ (roTree l t).get b = some (.ro p.2)
  | [], _, _, _ => .inl rfl
  | p :: l, t, b, h => by
    rw [roTree]
    rcases roTree_get l (t.set 40 p.1 (.ro p.2)) b (fun q hq => h q (by simp [hq])) with h1 | ⟨q, h1, h2, h3⟩
    · rw [h1, Tree.get_set 40 _ _ _ _ (h p (by simp))]
      by_cases e : b = p.1
      · rw [if_pos e]; exact .inr ⟨p, by simp, e.symm, rfl⟩
      · rw [if_neg e]; exact .inl rfl
    · exact .inr ⟨q, by simp [h1], h2, h3⟩
/-- every one of them is a row of plain values that the world has there -/
theorem roState_at {P : Program} {w : World} {l : List (Nat × List Value)} {n : Nat} (h40 : ∀ p ∈ l, p.1 < P.globals.size ∧ p.1 + 1 < 2 ^ 40 ∧ p.2.all (ground 9) = true)
    (h : ∀ p ∈ l, ∃ e f, w.heap[p.1]? = some (.cells ⟨p.2⟩ e f)) : ∀ b, b < (roState l n).n → At (base P) w b ((roState l n).t.get b) := by
  intro b _
  rcases roTree_get l .leaf b (fun p hp => (h40 p hp).2.1) with h1 | ⟨p, h1, h2, h3⟩
  · show At (base P) w b ((roTree l .leaf).get b)
    rw [h1, Tree.get_leaf]; exact .none
  · show At (base P) w b ((roTree l .leaf).get b)
    rw [h3]
    obtain ⟨e, f, hh⟩ := h p h1
    subst h2
    obtain ⟨k1, k2, k3⟩ := h40 p h1
    refine .ro p.2 e f p.1 ⟨p.2⟩ (by unfold base; rw [if_pos k1]) hh fun i v hv => ⟨v, by simpa using hv, ?_⟩
    rw [List.all_eq_true] at k3
    exact ground_rel 9 v (k3 v (List.mem_of_getElem? hv)) _
end Go.Canon
