/-
  A region whose order is the text's; how operands are tied.
-/
import Derived.Test.YtjdjmeiahchblaaGreatDoorCanL
namespace Go.Canon

def evT (tm : Tree Value) : Operand → Value
  | .tmp t => (tm.get t).getD undef
  | .const v => v
  | .global g => .pointer (some ⟨g, 0, none⟩)
  | .func f => .func (.func f) #[] #[]

def okOper (P : Program) : Operand → Bool
  | .tmp _ => true
  | .const v => ground 9 v
  | .global g => decide (g < P.globals.size)
  | .func _ => true

theorem evT_rel {P : Program} {ρ : Map} (hg : GR P ρ) {tm : Tree Value} {a : Act} {x : Operand} (ht : ∀ t, x = .tmp t → VRel ρ ((tm.get t).getD undef) (a.tmps.getD t undef)) (hx : okOper P x = true) : VRel ρ (evT tm x) (a.eval x) := by
  cases x with
  | tmp t => exact ht t rfl
  | const v => exact ground_rel 9 v hx ρ
  | global g =>
    have := hg g (by simpa [okOper] using hx)
    exact .ptr ⟨g, 0, none⟩ g (by rw [this]; rfl)
  | func f => exact .func f #[] #[] #[] #[] rfl (fun i h _ => by simp at h) rfl (fun i h _ => by simp at h)

def okOp (P : Program) (o : Oper) : Bool := o.op.operands.toList.all (okOper P)
theorem okOp_mem {P : Program} {o : Oper} (h : okOp P o = true) : ∀ x ∈ o.op.operands, okOper P x = true := by
  intro x hx
  unfold okOp at h
  rw [List.all_eq_true] at h
  exact h x (by simpa using hx)

def yieldedT (ops : Array Oper) (tm : Tree Value) (j : Nat) : Option Bool :=
  match ((ops[j]?).bind (·.dst)).bind tm.get with
  | some (.bool b) => some b
  | _ => none
theorem yielded_eq {ρ : Map} {ops : Array Oper} {tm : Tree Value} {tmps : Array Value} {j : Nat}
    (h : ∀ t, (ops[j]?).bind (·.dst) = some t → VRel ρ ((tm.get t).getD undef) (tmps.getD t undef)) : yielded ops tmps j = yieldedT ops tm j := by
  unfold yielded yieldedT
  cases ht : (ops[j]?).bind (·.dst) with
  | none => rfl
  | some t =>
    have hv := h t ht
    rw [Array.getD_eq_getD_getElem?] at hv
    simp only [Option.bind_some]
    cases h1 : tm.get t with
    | none =>
      rw [h1] at hv
      cases h2 : tmps[t]? with
      | none => rfl
      | some v2 =>
        rw [h2] at hv
        simp only [Option.getD_none, Option.getD_some] at hv
        unfold undef at hv
        cases hv
        rfl
    | some v1 =>
      rw [h1] at hv
      cases h2 : tmps[t]? with
      | none =>
        rw [h2] at hv
        simp only [Option.getD_none, Option.getD_some] at hv
        unfold undef at hv
        cases hv
        rfl
      | some v2 =>
        rw [h2] at hv
        simp only [Option.getD_some] at hv
        cases hv <;> rfl
theorem wanted_eq {ρ : Map} {ops : Array Oper} {tm : Tree Value} {tmps : Array Value} {o : Oper}
    (h : ∀ g w, o.guard = some (g, w) → ∀ t, (ops[g]?).bind (·.dst) = some t → VRel ρ ((tm.get t).getD undef) (tmps.getD t undef)) : Region.wanted o (yielded ops tmps) = Region.wanted o (yieldedT ops tm) := by
  unfold Region.wanted
  cases hg : o.guard with
  | none => rfl
  | some gw =>
    obtain ⟨g, w⟩ := gw
    simp only
    rw [yielded_eq (h g w hg)]

def putC (tm : Tree Value) (sz : Nat) (dst : Option Tmp) (v : Value) : Option (Tree Value) :=
  match dst with
  | some d => if d < sz ∧ d + 1 < 2 ^ 40 then some (tm.set 40 d v) else none
  | none => some tm
theorem putC_ok {ρ : Map} {tm tm1 : Tree Value} {sz : Nat} {dst : Option Tmp} {v v' : Value} {a : Act} (h : putC tm sz dst v = some tm1) (ht : TRel ρ tm sz a.tmps) (hv : VRel ρ v v') : TRel ρ tm1 sz (a.put dst v').tmps := by
  unfold putC at h
  cases dst with
  | none => simp only at h; injection h with h; subst h; exact ht
  | some d =>
    simp only at h
    split at h
    · rename_i hd
      injection h with h
      subst h
      exact ht.put hv hd.1 hd.2
    · cases h
theorem put_defers (a : Act) (dst : Option Tmp) (v : Value) : (a.put dst v).defers = a.defers := by cases dst <;> rfl

/-- the operations in the text's order -/
def doOps (P : Program) (call : CF → St → Option (Value × St)) (all : Array Oper) (sz : Nat) : List Oper → Tree Value → St → Option (Tree Value × St)
  | [], tm, s => some (tm, s)
  | o :: os, tm, s =>
    if Region.wanted o (yieldedT all tm) then
      if okOp P o then match doOp P call (evT tm) o s with
        | some (v, s1) => match putC tm sz o.dst v with
          | some tm1 => doOps P call all sz os tm1 s1
          | none => none
        | none => none
      else none
    else match putC tm sz o.dst undef with
      | some tm1 => doOps P call all sz os tm1 s
      | none => none

theorem doOps_ok {P : Program} (hP : NG P) {call : CF → St → Option (Value × St)} (hcall : RunOk P call) {all : Array Oper} {sz : Nat} :
    ∀ (os : List Oper) (i : Nat) (tm tm1 : Tree Value) (s s1 : St), all.toList.drop i = os → i + os.length = all.size → doOps P call all sz os tm s = some (tm1, s1) →
      Mono s s1 ∧ ∀ F, Sub s1.fp F → ∀ ρ w a, Fresh ρ s s1 → Inv F ρ s w → GR P ρ → TRel ρ tm sz a.tmps →
        ∃ ρ1 w1 a1, Inv F ρ1 s1 w1 ∧ Ext s1.w ρ ρ1 s s1 w w1 ∧ TRel ρ1 tm1 sz a1.tmps ∧ a1.defers = a.defers ∧
          ∀ (b : Frame) (k : List Item) (cs : List Frame), Steps P (lone (b.atR a (.inRegion all (List.range' i os.length) :: k)) cs w) (lone (b.atR a1 k) cs w1) := by
  intro os
  induction os with
  | nil =>
    intro i tm tm1 s s1 _ _ h
    simp only [doOps] at h
    injection h with h; injection h with h1 h2
    subst h1 h2
    exact ⟨.refl s, fun F _ ρ w a _ hi _ ht => ⟨ρ, w, a, hi, .refl _ _ _ _, ht, rfl, fun b k cs => .one stepR_region_end⟩⟩
  | cons o os ih =>
    intro i tm tm1 s s1 hdrop hlen h
    simp only [List.length_cons] at hlen
    have ho : all[i]? = some o := by
      have := congrArg (fun l => l[0]?) hdrop
      simpa using this
    have hdrop2 : all.toList.drop (i + 1) = os := by
      have := congrArg List.tail hdrop
      simpa using this
    simp only [doOps] at h
    split at h
    · rename_i hw
      split at h
      · rename_i hok
        split at h
        · rename_i v s2 hop
          split at h
          · rename_i tm2 hput
            obtain ⟨m1, h1⟩ := doOp_ok hP hcall hop
            obtain ⟨m2, h2⟩ := ih (i + 1) tm2 tm1 s2 s1 hdrop2 (by omega) h
            refine ⟨m1.trans m2, fun F hF ρ w a hf hi hg ht => ?_⟩
            obtain ⟨ρ1, w1, v', i1, e1, hv, hd⟩ := h1 F (m2.fp.trans hF) ρ w a (hf.fst m2.n) hi hg (fun x hx => evT_rel hg (fun t _ => ht.2 t) (okOp_mem hok x hx))
            obtain ⟨ρ2, w2, a2, i2, e2, ht2, hdf, hst⟩ := h2 F hF ρ1 w1 (a.put o.dst v') (hf.snd e1) i1 (hg.mono e1.le) (putC_ok hput (ht.mono e1.le) hv)
            refine ⟨ρ2, w2, a2, i2, (e1.wider m2.w).trans e2, ht2, hdf.trans (put_defers _ _ _), fun b k cs => ?_⟩
            rw [List.length_cons, List.range'_succ]
            refine (hd b all i _ k cs ho ?_).trans (hst b k cs)
            rw [wanted_eq (fun g w _ t _ => ht.2 t)]
            exact hw
          · cases h
        · cases h
      · cases h
    · rename_i hw
      split at h
      · rename_i tm2 hput
        obtain ⟨m2, h2⟩ := ih (i + 1) tm2 tm1 s s1 hdrop2 (by omega) h
        refine ⟨m2, fun F hF ρ w a hf hi hg ht => ?_⟩
        obtain ⟨ρ2, w2, a2, i2, e2, ht2, hdf, hst⟩ := h2 F hF ρ w (a.put o.dst undef) hf hi hg (putC_ok hput ht (undef_rel ρ))
        refine ⟨ρ2, w2, a2, i2, e2, ht2, hdf.trans (put_defers _ _ _), fun b k cs => ?_⟩
        rw [List.length_cons, List.range'_succ]
        have hs := stepR_op_skip (P := P) (b := b) (a := a) (k := k) (cs := cs) (w := w) (ops := all) (i := i) (rest := List.range' (i + 1) os.length) (by
          rw [ho, Option.map_some, Option.getD_some, wanted_eq (fun g w _ t _ => ht.2 t)]
          simpa using hw)
        rw [ho] at hs
        exact .head hs (hst b k cs)
      · cases h
end Go.Canon
