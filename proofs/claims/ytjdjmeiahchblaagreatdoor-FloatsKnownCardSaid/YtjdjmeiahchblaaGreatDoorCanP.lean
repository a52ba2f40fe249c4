/-
  Regions that draw their order: whatever order is drawn, the world is tied to what the text's order makes of the canonical memory.
-/
import Derived.Test.YtjdjmeiahchblaaGreatDoorCanO
namespace Go.Canon

theorem Ext.insert {W V : Nat} {ρ0 ρ ρ1 : Map} {s0 sE sj s1 : St} {w0 w w1 : World} (h : Ext W ρ0 ρ s0 sE w0 w) (k : Ext V ρ ρ1 sj s1 w w1) (h1 : s0.n ≤ sj.n) (h2 : s1.n ≤ sE.n) (hs : Sub V W) : Ext W ρ0 ρ1 s0 sE w0 w1 := by
  have old : ∀ b c, b < sj.n → (ρ1 b).tgt = some c → (ρ b).tgt = some c := by
    intro b c hb e
    rcases k.old b hb with h1 | ⟨h1, h2⟩
    · exact h1 ▸ e
    · rw [h2] at e; cases e
  have old0 : ∀ b c, b < s0.n → (ρ b).tgt = some c → (ρ0 b).tgt = some c := by
    intro b c hb e
    rcases h.old b hb with h1 | ⟨h1, h2⟩
    · exact h1 ▸ e
    · rw [h2] at e; cases e
  refine ⟨h.le.trans k.le, h.n, h.get, ?_, ?_, ?_, ?_, Nat.le_trans h.size k.size, ?_, k.os.trans h.os, k.output.trans h.output, k.tape.trans h.tape⟩
  · intro b hb hw; exact (k.same b (Nat.lt_of_lt_of_le hb h1) (hs.false hw)).trans (h.same b hb hw)
  · intro b hb; exact (k.far b (Nat.le_trans h2 hb)).trans (h.far b hb)
  · intro b hb
    rcases h.old b hb with h1' | ⟨h1', h2'⟩
    · rcases k.old b (Nat.lt_of_lt_of_le hb h1) with k1 | ⟨k1, k2⟩
      · exact .inl (k1.trans h1')
      · exact .inr ⟨h1' ▸ k1, k2⟩
    · rcases k.old b (Nat.lt_of_lt_of_le hb h1) with k1 | ⟨k1, k2⟩
      · exact .inr ⟨h1', k1.trans h2'⟩
      · exact .inr ⟨h1', k2⟩
  · intro c hc hno
    refine (k.heap c (Nat.lt_of_lt_of_le hc h.size) ?_).trans (h.heap c hc hno)
    intro b hb hw e
    by_cases hbn : b < s0.n
    · exact hno b hbn (hs b hw) (old0 b c hbn e)
    · have hbE : b < sE.n := by have := k.n; omega
      rcases h.new b c (by omega) hbE e with h3 | ⟨b0, k1, k2, k3⟩
      · omega
      · exact hno b0 k1 k2 k3
  · intro b c h3 h4 h5
    by_cases hb : b < sj.n
    · exact h.new b c h3 h4 (old b c hb h5)
    · by_cases hb1 : b < s1.n
      · rcases k.new b c (by omega) hb1 h5 with h6 | ⟨b0, k1, k2, k3⟩
        · exact .inl (Nat.le_trans h.size h6)
        · by_cases hb0 : b0 < s0.n
          · exact .inr ⟨b0, hb0, hs b0 k2, old0 b0 c hb0 k3⟩
          · exact h.new b0 c (by omega) (by have := k.n; omega) k3
      · rw [k.far b (by omega)] at h5
        exact h.new b c h3 h4 h5

section
variable {P : Program} {call : CF → St → Option (Value × St)} {all : Array Oper} {sz : Nat} {l : List Ent} {tmE : Tree Value} {sE : St}

/-- what one operation makes of the canonical memory -/
structure OneOp (l : List Ent) (sE : St) (i : Nat) : Prop where
  mono : Mono (sF l sE i) (sF l sE (i + 1))
  r : Sub (rF l i) (sF l sE (i + 1)).r
  w : Sub (wF l i) (sF l sE (i + 1)).w
  get : ∀ b, b < (sF l sE i).n → (wF l i).testBit b = false → (sF l sE (i + 1)).t.get b = (sF l sE i).t.get b
  nw : ∀ b, (sF l sE i).n ≤ b → b < (sF l sE (i + 1)).n → (wF l i).testBit b = true

theorem oneOp (hP : NG P) (hcall : RunOk P call) {o : Oper} {i : Nat} (h : StepAt P call all sz o l tmE sE i) : OneOp l sE i := by
  rcases h with ⟨_, _, v, s1, hop, _, hs, hr, hw⟩ | ⟨_, _, hs, hr, hw⟩
  · obtain ⟨m, _⟩ := doOp_ok hP hcall hop
    have mp : Mono (sF l sE i) (s1.plus (sF l sE i)) := {
      r := Sub.orl _ _
      w := Sub.orl _ _
      n := m.n
      get := fun b h1 h2 => m.get b h1 (by
        simp only [St.plus, Nat.testBit_or, Bool.or_eq_false_iff] at h2; exact h2.2)
      nw := fun b h1 h2 => by
        have := m.nw b h1 h2
        simp only [St.plus, Nat.testBit_or, this, Bool.or_true] }
    refine ⟨hs ▸ mp, ?_, ?_, ?_, ?_⟩
    · rw [hr, hs]; exact Sub.orr _ _
    · rw [hw, hs]; exact Sub.orr _ _
    · intro b h1 h2
      rw [hw] at h2
      rw [hs]
      exact m.get b h1 h2
    · intro b h1 h2
      rw [hs] at h2
      rw [hw]
      exact m.nw b h1 h2
  · refine ⟨hs ▸ .refl _, ?_, ?_, ?_, ?_⟩
    · rw [hr]; intro i h; simp at h
    · rw [hw]; intro i h; simp at h
    · intro b _ _; rw [hs]
    · intro b h1 h2; rw [hs] at h2; omega

theorem mono_chain (ho : ∀ i, i < all.size → OneOp l sE i) : ∀ (d i : Nat), i + d ≤ all.size → Mono (sF l sE i) (sF l sE (i + d)) := by
  intro d
  induction d with
  | zero => intro i _; exact .refl _
  | succ d ih => intro i h; exact (ih i (by omega)).trans (ho (i + d) (by omega)).mono
theorem mono_le (ho : ∀ i, i < all.size → OneOp l sE i) {i j : Nat} (h : i ≤ j) (hj : j ≤ all.size) : Mono (sF l sE i) (sF l sE j) := by
  have := mono_chain ho (j - i) i (by omega)
  rwa [show i + (j - i) = j by omega] at this
theorem get_chain (ho : ∀ i, i < all.size → OneOp l sE i) {b : Nat} : ∀ (d i : Nat), i + d ≤ all.size → (∀ k, i ≤ k → k < i + d → (wF l k).testBit b = false) → b < (sF l sE i).n → (sF l sE (i + d)).t.get b = (sF l sE i).t.get b := by
  intro d
  induction d with
  | zero => intro i _ _ _; rfl
  | succ d ih =>
    intro i h hno hb
    have h1 := ih i (by omega) (fun k h1 h2 => hno k h1 (by omega)) hb
    refine ((ho (i + d) (by omega)).get b ?_ (hno _ (by omega) (by omega))).trans h1
    exact Nat.lt_of_lt_of_le hb (mono_chain ho d i (by omega)).n
theorem get_le (ho : ∀ i, i < all.size → OneOp l sE i) {b i j : Nat} (h : i ≤ j) (hj : j ≤ all.size) (hno : ∀ k, i ≤ k → k < j → (wF l k).testBit b = false) (hb : b < (sF l sE i).n) : (sF l sE j).t.get b = (sF l sE i).t.get b := by
  have := get_chain ho (b := b) (j - i) i (by omega) (fun k h1 h2 => hno k h1 (by omega)) hb
  rwa [show i + (j - i) = j by omega] at this
/-- who made a block -/
theorem made (ho : ∀ i, i < all.size → OneOp l sE i) {b : Nat} : ∀ (d i : Nat), i + d ≤ all.size → (sF l sE i).n ≤ b → b < (sF l sE (i + d)).n → ∃ k, i ≤ k ∧ k < i + d ∧ (wF l k).testBit b = true := by
  intro d
  induction d with
  | zero => intro i _ h1 h2; exact absurd h1 (by simp only [Nat.add_zero] at h2; omega)
  | succ d ih =>
    intro i h h1 h2
    by_cases h3 : b < (sF l sE (i + d)).n
    · obtain ⟨k, k1, k2, k3⟩ := ih i (by omega) h1 h3
      exact ⟨k, k1, by omega, k3⟩
    · exact ⟨i + d, by omega, by omega, (ho (i + d) (by omega)).nw b (by omega) h2⟩
end

structure RI (P : Program) (all : Array Oper) (sz : Nat) (l : List Ent) (tmE : Tree Value) (s0 sE : St) (F : Nat) (ρ0 : Map) (w0 : World) (D : Nat → Bool) (ρ : Map) (w : World) (tmps : Array Value) : Prop where
  inj : ∀ b c x, (ρ b).tgt = some x → (ρ c).tgt = some x → b = c
  lt : ∀ b x, (ρ b).tgt = some x → x < w.heap.size
  gr : GR P ρ
  mem : ∀ b, F.testBit b = true → ∀ k, k ≤ all.size → (∀ i, i < all.size → (wF l i).testBit b = true → (D i = true ↔ i < k)) → b < (sF l sE k).n → At ρ w b ((sF l sE k).t.get b)
  size : tmps.size = sz
  tmp : ∀ t k, k ≤ all.size → (∀ i p, all[i]? = some p → p.dst = some t → (D i = true ↔ i < k)) → VRel ρ (((tmF l tmE k).get t).getD undef) (tmps.getD t undef)
  fresh : ∀ i, i < all.size → D i = false → ∀ b, (sF l sE i).n ≤ b → b < (sF l sE (i + 1)).n → ρ b = .none
  ext : Ext sE.w ρ0 ρ s0 sE w0 w
  closed : Closed all D

section
variable {P : Program} {call : CF → St → Option (Value × St)} {all : Array Oper} {sz : Nat} {l : List Ent} {tmE : Tree Value} {s0 sE : St} {F : Nat} {ρ0 : Map} {w0 : World}

theorem sF_end (hl : l.length = all.size) : sF l sE all.size = sE := by
  unfold sF
  rw [List.getElem?_eq_none (by omega)]
theorem tmF_end (hl : l.length = all.size) : tmF l tmE all.size = tmE := by
  unfold tmF
  rw [List.getElem?_eq_none (by omega)]

theorem tm_chain (hsteps : ∀ i o, all[i]? = some o → StepAt P call all sz o l tmE sE i) {t : Nat} : ∀ (d i : Nat), i + d ≤ all.size → (∀ k p, i ≤ k → k < i + d → all[k]? = some p → p.dst ≠ some t) → (tmF l tmE (i + d)).get t = (tmF l tmE i).get t := by
  intro d
  induction d with
  | zero => intro i _ _; rfl
  | succ d ih =>
    intro i h hno
    have h1 := ih i (by omega) (fun k p h1 h2 => hno k p h1 (by omega))
    have hk : all[i + d]? = some all[i + d] := Array.getElem?_eq_getElem (by omega)
    have hne := hno (i + d) _ (by omega) (by omega) hk
    have key : ∀ (x : Value) (tm1 : Tree Value), putC (tmF l tmE (i + d)) sz all[i + d].dst x = some tm1 → tm1.get t = (tmF l tmE (i + d)).get t := by
      intro x tm1 hp
      unfold putC at hp
      split at hp
      · rename_i dd hdd
        split at hp
        · rename_i hd
          injection hp with hp
          subst hp
          rw [Tree.get_set 40 _ _ _ _ hd.2, if_neg]
          intro e
          subst e
          exact hne hdd
        · cases hp
      · injection hp with hp; subst hp; rfl
    have h2 : (tmF l tmE (i + (d + 1))).get t = (tmF l tmE (i + d)).get t := by
      rcases hsteps (i + d) _ hk with ⟨_, _, v, s1, _, hp, _⟩ | ⟨_, hp, _⟩
      · exact key v _ hp
      · exact key undef _ hp
    exact h2.trans h1
theorem tm_le (hsteps : ∀ i o, all[i]? = some o → StepAt P call all sz o l tmE sE i) {t i j : Nat} (h : i ≤ j) (hj : j ≤ all.size) (hno : ∀ k p, i ≤ k → k < j → all[k]? = some p → p.dst ≠ some t) : (tmF l tmE j).get t = (tmF l tmE i).get t := by
  have := tm_chain hsteps (t := t) (j - i) i (by omega) (fun k p h1 h2 => hno k p h1 (by omega))
  rwa [show i + (j - i) = j by omega] at this
end
end Go.Canon
