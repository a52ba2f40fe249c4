/-
  A long closed call in pieces: the frame's own steps one after another, a picture of the memory between two pieces.
-/
import Derived.Test.YtjdjmeiahchblaaGreatDoorCanV
namespace Go.Canon

inductive Ctl where
  | go (k : List Item)
  | ask (c : Operand) (k1 k0 : List Item)
  | ops (o : Array Oper) (drawn : Bool) (k : List Item)
  | stop

def ctl : List Item → Ctl
  | .code .skip :: k => .go k
  | .code (.label _) :: k => .go k
  | .code (.seq x y) :: k => .go (.code x :: .code y :: k)
  | .code (.cond c x y) :: k => .ask c (.code x :: k) (.code y :: k)
  | .code (.block id c) :: k => .go (.code c :: .inBlock id :: k)
  | .code (.loop c) :: k => .go (.code c :: .inLoop c :: k)
  | .code (.scope c) :: k => .go (.code c :: .inScope c :: k)
  | .code (.exit id) :: k => match exitTo id k with
    | some k' => .go k'
    | none => .stop
  | .code (.goto t) :: k => match gotoIn t k with
    | some k' => .go k'
    | none => .stop
  | .code (.region _ ops d) :: k => .ops ops d k
  | .inBlock _ :: k => .go k
  | .inScope _ :: k => .go k
  | .inLoop c :: k => .go (.code c :: .inLoop c :: k)
  | _ => .stop

def todoNext (t : Bool) (todo : List Item) : List Item :=
  match ctl todo with
  | .go k => k
  | .ask _ k1 k0 => match t with | true => k1 | false => k0
  | .ops _ _ k => k
  | .stop => []
def todoAfter : List Bool → List Item → List Item
  | [], k => k
  | t :: l, k => todoAfter l (todoNext t k)

/-- one step of a frame: its word says which way a condition went -/
def one (P : Program) (call : CF → St → Option (Value × St)) (sz : Nat) (t : Bool) (todo : List Item) (tm : Tree Value) (s : St) : Option (Tree Value × St) :=
  match ctl todo with
  | .go _ => some (tm, s)
  | .ask c _ _ => if okOper P c then match evT tm c with
      | .bool t' => if t' = t then some (tm, s) else none
      | _ => none
    else none
  | .ops o false _ => doOps P call o sz o.toList tm s
  | .ops o true _ => if okRegion o then match doOpsD P call o sz o.toList tm s with
      | some (l, tm, s1) => if confAll (bef o) [] l then some (tm, s1) else none
      | none => none
    else none
  | .stop => none
def runs (P : Program) (call : CF → St → Option (Value × St)) (sz : Nat) : List Bool → List Item → Tree Value → St → Option (Tree Value × St)
  | [], _, tm, s => some (tm, s)
  | t :: l, todo, tm, s => match one P call sz t todo tm s with
    | some (tm1, s1) => runs P call sz l (todoNext t todo) tm1 s1
    | none => none

theorem ctl_go {P : Program} {todo k : List Item} (h : ctl todo = .go k) {b : Frame} {a : Act} {cs : List Frame} {w : World} : step P (lone (b.atR a todo) cs w) = .next (lone (b.atR a k) cs w) := by
  unfold ctl at h
  split at h <;> first | (cases h; done) | skip
  · injection h with h; subst h; exact stepR_skip
  · injection h with h; subst h; exact stepR_label
  · injection h with h; subst h; exact stepR_seq
  · injection h with h; subst h; exact stepR_block
  · injection h with h; subst h; exact stepR_loop
  · injection h with h; subst h; exact stepR_scope
  · split at h
    · rename_i hk; injection h with h; subst h; exact stepR_exit hk
    · cases h
  · split at h
    · rename_i hk; injection h with h; subst h; exact stepR_goto hk
    · cases h
  · injection h with h; subst h; exact stepR_inBlock
  · injection h with h; subst h; exact stepR_inScope
  · injection h with h; subst h; exact stepR_inLoop
theorem ctl_ask {todo k1 k0 : List Item} {c : Operand} (h : ctl todo = .ask c k1 k0) : ∃ x y k, todo = .code (.cond c x y) :: k ∧ k1 = .code x :: k ∧ k0 = .code y :: k := by
  unfold ctl at h
  split at h <;> first | (cases h; done) | skip
  · injection h with h1 h2 h3; subst h1 h2 h3; exact ⟨_, _, _, rfl, rfl, rfl⟩
  · split at h <;> cases h
  · split at h <;> cases h
theorem ctl_ops {todo k : List Item} {o : Array Oper} {d : Bool} (h : ctl todo = .ops o d k) : ∃ id, todo = .code (.region id o d) :: k := by
  unfold ctl at h
  split at h <;> first | (cases h; done) | skip
  · split at h <;> cases h
  · split at h <;> cases h
  · injection h with h1 h2 h3; subst h1 h2 h3; exact ⟨_, rfl⟩

def StOk (P : Program) (sz : Nat) (todo todo1 : List Item) (tm tm1 : Tree Value) (s s1 : St) : Prop :=
  Mono s s1 ∧ ∀ F, Sub s1.fp F → ∀ (ρ : Map) (w : World) (b : Frame) (a : Act), Fresh ρ s s1 → Inv F ρ s w → GR P ρ → TRel ρ tm sz a.tmps →
    ∃ (ρ1 : Map) (w1 : World) (a1 : Act), Inv F ρ1 s1 w1 ∧ Ext s1.w ρ ρ1 s s1 w w1 ∧ TRel ρ1 tm1 sz a1.tmps ∧ a1.defers = a.defers ∧ ∀ cs : List Frame, Steps P (lone (b.atR a todo) cs w) (lone (b.atR a1 todo1) cs w1)

theorem one_ok {P : Program} (hP : NG P) (hm : P.follows .mixedOrders = true) {f sz : Nat} {t : Bool} {todo : List Item} {tm tm1 : Tree Value} {s s1 : St} (h : one P (run P f) sz t todo tm s = some (tm1, s1)) :
    StOk P sz todo (todoNext t todo) tm tm1 s s1 := by
  unfold one at h
  split at h
  · rename_i k hk
    injection h with h; injection h with h1 h2; subst h1 h2
    refine ⟨.refl _, fun F _ ρ w b a _ hi hg ht => ⟨ρ, w, a, hi, .refl _ _ _ _, ht, rfl, fun cs => .one ?_⟩⟩
    simp only [todoNext, hk]
    exact ctl_go hk
  · rename_i c k1 k0 hk
    split at h
    · rename_i hok
      split at h
      · rename_i t' hc
        split at h
        · rename_i ht'
          subst ht'
          injection h with h; injection h with h1 h2; subst h1 h2
          refine ⟨.refl _, fun F _ ρ w b a _ hi hg ht => ⟨ρ, w, a, hi, .refl _ _ _ _, ht, rfl, fun cs => .one ?_⟩⟩
          obtain ⟨x, y, k, e1, e2, e3⟩ := ctl_ask hk
          simp only [todoNext, hk]
          have h1 := evT_rel hg (tm := tm) (a := a) (x := c) (fun t _ => ht.2 t) hok
          rw [hc] at h1
          rw [e1, stepR_cond h1.bool_inv]
          cases t' <;> simp [e2, e3]
        · cases h
      · cases h
    · cases h
  · rename_i o k hk
    obtain ⟨id, e⟩ := ctl_ops hk
    obtain ⟨m1, h1⟩ := doOps_ok hP (run_ok hP hm f) o.toList 0 tm tm1 s s1 rfl (by simp) h
    refine ⟨m1, fun F hF ρ w b a hf hi hg ht => ?_⟩
    obtain ⟨ρ1, w1, a1, i1, e1, ht1, hd1, hst⟩ := h1 F hF ρ w a hf hi hg ht
    refine ⟨ρ1, w1, a1, i1, e1, ht1, hd1, fun cs => ?_⟩
    simp only [todoNext, hk]
    rw [e]
    have := hst b k cs
    rw [Array.length_toList, ← List.range_eq_range'] at this
    exact .head stepR_region this
  · rename_i o k hk
    obtain ⟨id, e⟩ := ctl_ops hk
    split at h
    · rename_i hok
      split at h
      · rename_i l tm' s2 hops
        split at h
        · rename_i hc
          injection h with h; injection h with h1 h2; subst h1 h2
          obtain ⟨m1, h1⟩ := doOpsD_ok hP hm (run_ok hP hm f) hops hok hc
          refine ⟨m1, fun F hF ρ w b a hf hi hg ht => ?_⟩
          obtain ⟨ρ1, w1, a1, i1, e1, ht1, hd1, hst⟩ := h1 F hF ρ w a hf hi hg ht id b.fn
          refine ⟨ρ1, w1, a1, i1, e1, ht1, hd1, fun cs => ?_⟩
          simp only [todoNext, hk]
          rw [e]
          exact hst b k cs rfl
        · cases h
      · cases h
    · cases h
  · cases h

theorem runs_ok {P : Program} (hP : NG P) (hm : P.follows .mixedOrders = true) {f sz : Nat} : ∀ (l : List Bool) {todo : List Item} {tm tm1 : Tree Value} {s s1 : St}, runs P (run P f) sz l todo tm s = some (tm1, s1) →
    StOk P sz todo (todoAfter l todo) tm tm1 s s1
  | [], todo, tm, tm1, s, s1, h => by
    simp only [runs] at h
    injection h with h; injection h with h1 h2; subst h1 h2
    exact ⟨.refl _, fun F _ ρ w b a _ hi hg ht => ⟨ρ, w, a, hi, .refl _ _ _ _, ht, rfl, fun cs => .refl _ _⟩⟩
  | t :: l, todo, tm, tm1, s, s1, h => by
    simp only [runs] at h
    split at h
    · rename_i tm2 s2 h1
      obtain ⟨m1, k1⟩ := one_ok hP hm h1
      obtain ⟨m2, k2⟩ := runs_ok hP hm l h
      refine ⟨m1.trans m2, fun F hF ρ w b a hf hi hg ht => ?_⟩
      obtain ⟨ρ1, w1, a1, i1, e1, ht1, hd1, hst1⟩ := k1 F (m2.fp.trans hF) ρ w b a (hf.fst m2.n) hi hg ht
      obtain ⟨ρ2, w2, a2, i2, e2, ht2, hd2, hst2⟩ := k2 F hF ρ1 w1 b a1 (hf.snd e1) i1 (hg.mono e1.le) ht1
      exact ⟨ρ2, w2, a2, i2, (e1.wider m2.w).trans e2, ht2, hd2.trans hd1, fun cs => (hst1 cs).trans (hst2 cs)⟩
    · cases h
end Go.Canon
