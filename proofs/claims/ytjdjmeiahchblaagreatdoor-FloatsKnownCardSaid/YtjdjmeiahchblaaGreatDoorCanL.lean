/-
  Frames, calls; one operation of a region, with all that it calls.
-/
import Derived.Test.YtjdjmeiahchblaaGreatDoorCanK
import Derived.AtR
namespace Go.Canon

structure CF where
  fn : FuncId
  tm : Tree Value
  sz : Nat
  defers : List Nat
  todo : List Item
  ro : Option Nat

def DRel (ρ : Map) : List Nat → List Deferred → Prop
  | [], [] => True
  | d :: ds, e :: es => (∃ d', ρ d = .hard d' ∧ e = { target := .collected d', args := #[] }) ∧ DRel ρ ds es
  | _, _ => False
theorem DRel.mono {ρ ρ1 : Map} (hl : le ρ ρ1) : ∀ {l : List Nat} {l' : List Deferred}, DRel ρ l l' → DRel ρ1 l l'
  | [], [], _ => trivial
  | _ :: _, _ :: _, ⟨⟨d', h1, h2⟩, h⟩ => ⟨⟨d', hl.hard h1, h2⟩, DRel.mono hl h⟩

structure FRel (ρ : Map) (fr : CF) (b : Frame) (a : Act) : Prop where
  fn : b.fn = fr.fn
  kind : b.kind = .normal
  ro : (fr.ro = none ∧ b.roundOf = none) ∨ ∃ l l', fr.ro = some l ∧ b.roundOf = some l' ∧ ρ l = .hard l'
  tm : TRel ρ fr.tm fr.sz a.tmps
  defers : DRel ρ fr.defers a.defers
theorem FRel.mono {ρ ρ1 : Map} {fr : CF} {b : Frame} {a : Act} (h : FRel ρ fr b a) (hl : le ρ ρ1) : FRel ρ1 fr b a :=
  ⟨h.fn, h.kind, h.ro.imp id (fun ⟨l, l', h1, h2, h3⟩ => ⟨l, l', h1, h2, hl.hard h3⟩), h.tm.mono hl, h.defers.mono hl⟩

/-- the package-level variables are where they are -/
def GR (P : Program) (ρ : Map) : Prop := ∀ g, g < P.globals.size → ρ g = .hard g
theorem GR.mono {P : Program} {ρ ρ1 : Map} (h : GR P ρ) (hl : le ρ ρ1) : GR P ρ1 := fun g hg => hl.hard (h g hg)

/-- a frame ends with a value -/
structure Ends (P : Program) (f0 : Frame) (w : World) (v : Value) (w1 : World) : Prop where
  leave : f0.roundOf = none → ∀ cs, ∃ fr1, Steps P (lone f0 cs w) (lone fr1 cs w1) ∧ fr1.fn = f0.fn ∧ fr1.leaving P w1 (.returned v)
  back : ∀ c cs, Steps P (lone f0 (c :: cs) w) (lone (c.finish v) cs w1)
theorem Ends.of_leave {P : Program} {f0 : Frame} {w : World} {v : Value} {w1 : World} (h : ∀ cs, ∃ fr1, Steps P (lone f0 cs w) (lone fr1 cs w1) ∧ fr1.fn = f0.fn ∧ fr1.leaving P w1 (.returned v)) : Ends P f0 w v w1 :=
  ⟨fun _ => h, fun c cs => by
    obtain ⟨fr1, h1, _, h3⟩ := h (c :: cs)
    exact h1.trans (.one (step_leave_returned h3))⟩
theorem Ends.of_steps {P : Program} {f0 f1 : Frame} {w w1 : World} {v : Value} {w2 : World} (h : Ends P f1 w1 v w2) (hr : f1.roundOf = f0.roundOf) (hf : f1.fn = f0.fn) (hs : ∀ cs, Steps P (lone f0 cs w) (lone f1 cs w1)) : Ends P f0 w v w2 :=
  ⟨fun h0 cs => by
    obtain ⟨fr1, h1, h2, h3⟩ := h.leave (hr.trans h0) cs
    exact ⟨fr1, (hs cs).trans h1, h2.trans hf, h3⟩, fun c cs => (hs (c :: cs)).trans (h.back c cs)⟩

def RunOk (P : Program) (call : CF → St → Option (Value × St)) : Prop :=
  ∀ fr s v s1, call fr s = some (v, s1) → Mono s s1 ∧ ∀ F, Sub s1.fp F → ∀ ρ w b a, Fresh ρ s s1 → Inv F ρ s w → GR P ρ → FRel ρ fr b a →
    ∃ ρ1 w1 v', Inv F ρ1 s1 w1 ∧ Ext s1.w ρ ρ1 s s1 w w1 ∧ VRel ρ1 v v' ∧ Ends P (b.atR a fr.todo) w v' w1

def fillL (tm : Tree Value) (i : Nat) : List Value → Tree Value
  | [] => tm
  | v :: vs => fillL (tm.set 40 i v) (i + 1) vs
theorem fillL_get : ∀ (vs : List Value) (tm : Tree Value) (i t : Nat), i + vs.length < 2 ^ 39 → (fillL tm i vs).get t = if i ≤ t ∧ t < i + vs.length then vs[t - i]? else tm.get t
  | [], tm, i, t, _ => by simp [fillL]; omega
  | v :: vs, tm, i, t, h => by
    simp only [List.length_cons] at h
    rw [fillL, fillL_get vs _ _ t (by omega), Tree.get_set 40 _ _ _ _ (by omega)]
    by_cases h1 : t = i
    · subst h1
      rw [if_neg (by omega), if_pos rfl, if_pos (by simp)]
      simp
    · rw [if_neg h1]
      by_cases h2 : i + 1 ≤ t ∧ t < i + 1 + vs.length
      · rw [if_pos h2, if_pos (by simp only [List.length_cons]; omega)]
        rw [show t - i = (t - (i + 1)) + 1 by omega]
        simp
      · rw [if_neg h2, if_neg (by simp only [List.length_cons]; omega)]

theorem undef_rel (ρ : Map) : VRel ρ undef undef := .tuple #[] #[] rfl (fun i h _ => by simp at h)

theorem fill_trel {ρ : Map} {x x' : Array Value} (h : ARel ρ x x') (k : Nat) (hs : x.size < 2 ^ 38) : TRel ρ (fillL .leaf 0 x.toList) (x.size + k) (x' ++ Array.replicate k undef) := by
  refine ⟨by simp [h.1], fun t => ?_⟩
  rw [fillL_get _ _ _ _ (by simp only [Array.length_toList]; omega), Array.getD_eq_getD_getElem?]
  simp only [Nat.zero_le, true_and, Nat.zero_add, Array.length_toList, Nat.sub_zero, Tree.get_leaf]
  by_cases h1 : t < x.size
  · rw [if_pos h1, Array.getElem?_append_left (by rw [← h.1]; exact h1)]
    obtain ⟨v', e1, e2⟩ := h.prel t x[t] (by rw [Array.getElem?_toList]; exact Array.getElem?_eq_some_iff.2 ⟨h1, rfl⟩)
    rw [e1, Array.getElem?_toList, Array.getElem?_eq_some_iff.2 ⟨h1, rfl⟩]
    exact e2
  · rw [if_neg h1, Array.getElem?_append_right (by rw [← h.1]; omega)]
    have : ((Array.replicate k undef)[t - x'.size]?).getD undef = undef := by
      rw [Array.getElem?_replicate]
      split <;> rfl
    rw [this]
    exact undef_rel ρ

def enterC (P : Program) (f : FuncId) (args : Array Value) : Option CF :=
  match P.funcs[f]? with
  | some fn => match fn.body with
    | some c => if args.size < 2 ^ 38 then some { fn := f, tm := fillL .leaf 0 args.toList, sz := args.size + (fn.ntmps - args.size), defers := [], todo := [.code c], ro := none } else none
    | none => none
  | none => none
theorem enterC_ok {P : Program} {f : FuncId} {args : Array Value} {fr : CF} (h : enterC P f args = some fr) {ρ : Map} {args' : Array Value} (ha : ARel ρ args args') :
    ∃ b a, Frame.enter P f args' .normal = b.atR a fr.todo ∧ FRel ρ fr b a := by
  unfold enterC at h
  split at h
  · rename_i fn hf
    split at h
    · rename_i c hb
      split at h
      · rename_i hs
        injection h with h
        subst h
        refine ⟨{ (default : Frame) with fn := f, kind := .normal, roundOf := none }, { tmps := args' ++ Array.replicate (fn.ntmps - args'.size) undef, defers := [] }, ?_, rfl, rfl, .inl ⟨rfl, rfl⟩, ?_, trivial⟩
        · simp [Frame.enter, Frame.atR, hf, hb]
        · have e := ha.1
          simp only
          rw [← e]
          exact fill_trel ha _ hs
      · cases h
    · cases h
  · cases h

def noDefer : Op → Bool
  | .defer _ => false
  | _ => true

def doOp (P : Program) (call : CF → St → Option (Value × St)) (ev : Operand → Value) (o : Oper) (s : St) : Option (Value × St) :=
  if noDefer o.op then
    match opC P ev o s with
    | some (.val v, s1) => some (v, s1)
    | some (.skip, s1) => some (undef, s1)
    | some (.enter f args, s1) => match enterC P f args with
      | some fr => call fr s1
      | none => none
    | some (.round l fn tm sz as bo, s1) => call { fn, tm, sz, defers := [], todo := [.code as, .beginRound, .code bo], ro := some l } s1
    | none => none
  else none

/-- one operation of a region is done -/
def OpDone (P : Program) (o : Oper) (a : Act) (w : World) (v' : Value) (w1 : World) : Prop :=
  ∀ (b : Frame) (ops : Array Oper) (i : Nat) (rest : List Nat) (k : List Item) (cs : List Frame), ops[i]? = some o → Region.wanted o (yielded ops a.tmps) = true →
    Steps P (lone (b.atR a (.inRegion ops (i :: rest) :: k)) cs w) (lone (b.atR (a.put o.dst v') (.inRegion ops rest :: k)) cs w1)

def OpRun (P : Program) (ev : Operand → Value) (o : Oper) (s s1 : St) (v : Value) : Prop :=
  Mono s s1 ∧ ∀ F, Sub s1.fp F → ∀ ρ w a, Fresh ρ s s1 → Inv F ρ s w → GR P ρ → EvR ρ ev o.op a.eval →
    ∃ ρ1 w1 v', Inv F ρ1 s1 w1 ∧ Ext s1.w ρ ρ1 s s1 w w1 ∧ VRel ρ1 v v' ∧ OpDone P o a w v' w1

theorem doOp_ok {P : Program} (hP : NG P) {call : CF → St → Option (Value × St)} (hcall : RunOk P call) {ev : Operand → Value} {o : Oper} {s s1 : St} {v : Value} (h : doOp P call ev o s = some (v, s1)) : OpRun P ev o s s1 v := by
  unfold doOp at h
  split at h
  · rename_i hnd
    have hnd2 : ∀ c, o.op ≠ .defer c := fun c e => by rw [e] at hnd; cases hnd
    have fin : ∀ (b : Frame) (ops : Array Oper) (i : Nat) (rest : List Nat) (k : List Item) (a : Act) (v : Value), ops[i]? = some o → (b.atR a (.inRegion ops (i :: rest) :: k)).finish v = b.atR (a.put o.dst v) (.inRegion ops rest :: k) := by
      intro b ops i rest k a v ho; rw [Frame.finish_atR, ho]; rfl
    split at h
    · rename_i v1 s2 hop
      injection h with h; injection h with h1 h2
      subst h1 h2
      obtain ⟨m, hs⟩ := opC_ok P hP hop
      refine ⟨m, fun F hF ρ w a hf hi _ he => ?_⟩
      obtain ⟨ρ1, w1, i1, e1, r, hr, hn⟩ := hs F hF ρ w a.eval hf hi he
      cases hn with
      | val _ v' hv =>
        refine ⟨ρ1, w1, v', i1, e1, hv, fun b ops i rest k cs ho hw => .one (step_lone_go ?_)⟩
        rw [stepGR_op ho hw, Oper.semAt_eq _ _ _ hnd2, ← fin b ops i rest k a v' ho]
        simp [stepG.apply, hr]
    · rename_i s2 hop
      injection h with h; injection h with h1 h2
      subst h1 h2
      obtain ⟨m, hs⟩ := opC_ok P hP hop
      refine ⟨m, fun F hF ρ w a hf hi _ he => ?_⟩
      obtain ⟨ρ1, w1, i1, e1, r, hr, hn⟩ := hs F hF ρ w a.eval hf hi he
      cases hn with
      | skip =>
        refine ⟨ρ1, w1, undef, i1, e1, undef_rel _, fun b ops i rest k cs ho hw => .one (step_lone_go ?_)⟩
        rw [stepGR_op ho hw, Oper.semAt_eq _ _ _ hnd2, ← fin b ops i rest k a undef ho]
        simp [stepG.apply, hr]
    · rename_i f args s2 hop
      split at h
      · rename_i fr hfr
        obtain ⟨m, hs⟩ := opC_ok P hP hop
        obtain ⟨m2, hs2⟩ := hcall _ _ _ _ h
        refine ⟨m.trans m2, fun F hF ρ w a hf hi hg he => ?_⟩
        obtain ⟨ρ1, w1, i1, e1, r, hr, hn⟩ := hs F (m2.fp.trans hF) ρ w a.eval (hf.fst m2.n) hi he
        cases hn with
        | enter _ _ args' ha =>
          obtain ⟨b2, a2, he2, hr2⟩ := enterC_ok hfr ha
          obtain ⟨ρ2, w2, v', i2, e2, hv, hend⟩ := hs2 F hF ρ1 w1 b2 a2 (hf.snd e1) i1 (hg.mono e1.le) hr2
          refine ⟨ρ2, w2, v', i2, (e1.wider m2.w).trans e2, hv, fun b ops i rest k cs ho hw => ?_⟩
          have henter : step P (lone (b.atR a (.inRegion ops (i :: rest) :: k)) cs w) = .next (lone (Frame.enter P f args' .normal) (b.atR a (.inRegion ops (i :: rest) :: k) :: cs) w1) :=
            step_lone_go (by rw [stepGR_op ho hw, Oper.semAt_eq _ _ _ hnd2]; simp [stepG.apply, hr, Frame.atR])
          rw [← fin b ops i rest k a v' ho]
          rw [he2] at henter
          exact .head henter (hend.back _ cs)
      · cases h
    · rename_i l fn tm sz as bo s2 hop
      obtain ⟨m, hs⟩ := opC_ok P hP hop
      obtain ⟨m2, hs2⟩ := hcall _ _ _ _ h
      refine ⟨m.trans m2, fun F hF ρ w a hf hi hg he => ?_⟩
      obtain ⟨ρ1, w1, i1, e1, r, hr, hn⟩ := hs F (m2.fp.trans hF) ρ w a.eval (hf.fst m2.n) hi he
      cases hn with
      | round _ l' _ _ _ tmps _ _ hl ht =>
        obtain ⟨ρ2, w2, v', i2, e2, hv, hend⟩ := hs2 F hF ρ1 w1 { (default : Frame) with fn := fn, kind := .normal, roundOf := some l' } { tmps := tmps, defers := [] } (hf.snd e1) i1 (hg.mono e1.le)
          ⟨rfl, rfl, .inr ⟨l, l', rfl, rfl, hl⟩, ht, trivial⟩
        refine ⟨ρ2, w2, v', i2, (e1.wider m2.w).trans e2, hv, fun b ops i rest k cs ho hw => ?_⟩
        have henter : step P (lone (b.atR a (.inRegion ops (i :: rest) :: k)) cs w) = .next (lone (Frame.round l' fn tmps as bo .normal) (b.atR a (.inRegion ops (i :: rest) :: k) :: cs) w1) :=
          step_lone_go (by rw [stepGR_op ho hw, Oper.semAt_eq _ _ _ hnd2]; simp [stepG.apply, hr, Frame.atR])
        rw [← fin b ops i rest k a v' ho]
        exact .head henter (hend.back _ cs)
    · cases h
  · cases h
end Go.Canon
