/-
  A whole frame is done canonically, and the model's machine does the same: every closed call whose canonical run ends.
-/
import Derived.Test.YtjdjmeiahchblaaGreatDoorCanR
namespace Go.Canon

def takeAll : List Nat → St → Option St
  | [], s => some s
  | d :: ds, s => match takeC s d with
    | some s1 => takeAll ds s1
    | none => none

section
variable {P : Program} {b : Frame} {cs : List Frame} {w w1 : World} {todo k : List Item}
theorem step_collect {tmps : Array Value} {d' : Nat} {ds : List Deferred} (hr : (Instr.takeDeferred d').run P w = .ok [] w1) :
    step P (lone { b.atR { tmps, defers := { target := .collected d', args := #[] } :: ds } todo with mode := .returning } cs w) = .next (lone { b.atR { tmps, defers := ds } todo with mode := .returning } cs w1) :=
  step_lone_go (by simp [stepG, unwind, Frame.atR, Sem.runT_eq, hr])
theorem stepR_scope {c : Code} {a : Act} : step P (lone (b.atR a (.code (.scope c) :: k)) cs w) = .next (lone (b.atR a (.code c :: .inScope c :: k)) cs w) :=
  step_lone_go (by simp [stepG, stepG.exec, Frame.atR])
theorem stepR_inScope {c : Code} {a : Act} : step P (lone (b.atR a (.inScope c :: k)) cs w) = .next (lone (b.atR a k) cs w) :=
  step_lone_go (by simp [stepG, stepG.exec, Frame.atR])
theorem stepR_endRangeFunc {l : Nat} {jump : Option Code} {a : Act} (hr : (Instr.endLoop l).run P w = .ok jump w1) :
    step P (lone (b.atR a (.endRangeFunc l :: k)) cs w) = .next (lone (b.atR a ((jump.map Item.code).toList ++ k)) cs w1) :=
  step_lone_go (by simp [stepG, stepG.exec, Frame.atR, Sem.runT_eq, hr])
theorem stepR_rangeFunc {g : Operand} {params : Array Tmp} {assign body : Code} {a : Act} {l gf : Nat} {mark : List Deferred} {args : Array Value}
    (hr : (Instr.enterLoop b.fn a.tmps params assign body b.roundOf).run P w = .ok (l, mark) w1)
    (hi : (do let d ← resolve a.eval { callee := .value g, args := #[.const (.func (.yield l) #[] #[])], argTypes := #[] } 0; invoke d.target d.args : Sem Next).run P w1 = .ok (.enter gf args) w1) :
    step P (lone (b.atR a (.code (.rangeFunc g params assign body) :: k)) cs w) = .next (lone (Frame.enter P gf args .normal) (b.atR { a with defers := mark ++ a.defers } (.inRangeFunc l :: k) :: cs) w1) :=
  step_lone_go (by
    have he : ({ fn := b.fn, tmps := a.tmps, todo := .inRangeFunc l :: k, defers := mark ++ a.defers, mode := .run, kind := b.kind, roundOf := b.roundOf } : Frame).eval = a.eval := funext fun x => by cases x <;> rfl
    rw [Sem.run_bind] at hi
    simp only [stepG, stepG.exec, Frame.atR, Sem.runT_eq, hr, stepG.apply, he, Sem.run_bind, hi, if_true]
    simp)
end

theorem takeAll_ok (P : Program) : ∀ (ds : List Nat) (s s1 : St), takeAll ds s = some s1 → Mono s s1 ∧ ∀ F, Sub s1.fp F → ∀ ρ w (tmps : Array Value) (ds' : List Deferred), Fresh ρ s s1 → Inv F ρ s w → DRel ρ ds ds' →
    ∃ w1, Inv F ρ s1 w1 ∧ Ext s1.w ρ ρ s s1 w w1 ∧ ∀ (b : Frame) (todo : List Item) (cs : List Frame),
      Steps P (lone { b.atR { tmps, defers := ds' } todo with mode := .returning } cs w) (lone { b.atR { tmps, defers := [] } todo with mode := .returning } cs w1)
  | [], s, s1, h => by
    simp only [takeAll] at h; injection h with h; subst h
    refine ⟨.refl _, fun F _ ρ w tmps ds' _ hi hd => ?_⟩
    cases ds' with
    | nil => exact ⟨w, hi, .refl _ _ _ _, fun b todo cs => .refl _ _⟩
    | cons _ _ => exact hd.elim
  | d :: ds, s, s1, h => by
    simp only [takeAll] at h
    split at h
    · rename_i s2 ht
      obtain ⟨m1, h1⟩ := takeC_ok P ht
      obtain ⟨m2, h2⟩ := takeAll_ok P ds s2 s1 h
      refine ⟨m1.trans m2, fun F hF ρ w tmps ds' hf hi hd => ?_⟩
      cases ds' with
      | nil => exact hd.elim
      | cons e es =>
        obtain ⟨⟨d', hd1, rfl⟩, hd2⟩ := hd
        obtain ⟨ρ1, w1, i1, e1, rfl, hr⟩ := h1 F (m2.fp.trans hF) ρ w () (hf.fst m2.n) hi trivial
        obtain ⟨w2, i2, e2, hst⟩ := h2 F hF ρ1 w1 tmps es (hf.snd e1) i1 hd2
        exact ⟨w2, i2, (e1.wider m2.w).trans e2, fun b todo cs => .head (step_collect (hr d' hd1)) (hst b todo cs)⟩
    · cases h

def plainEnd : Option Code → Bool
  | none => true
  | some .ret => true
  | _ => false
def leaveC (P : Program) (fr : CF) (jump : Option Code) (s : St) : Option (Value × St) :=
  match fr.ro with
  | some l => endRoundC s l jump
  | none => if plainEnd jump then
      match P.funcs[fr.fn]? with
      | some fn => match takeAll fr.defers s with
        | some s1 => resC P fn fr.tm s1
        | none => none
      | none => none
    else none

/-- what leaving a frame is, at each of the four places -/
def AtEnd (jump : Option Code) (todo : List Item) : Prop :=
  (jump = none ∧ todo = []) ∨ (jump = some .ret ∧ ∃ k, todo = .code .ret :: k) ∨ (∃ id k, jump = some (.exit id) ∧ todo = .code (.exit id) :: k ∧ exitTo id k = none) ∨ ∃ t k, jump = some (.goto t) ∧ todo = .code (.goto t) :: k ∧ gotoIn t k = none

theorem leaveC_ok (P : Program) {fr : CF} {jump : Option Code} {s s1 : St} {v : Value} (h : leaveC P fr jump s = some (v, s1)) (hat : AtEnd jump fr.todo) :
    Mono s s1 ∧ ∀ F, Sub s1.fp F → ∀ ρ w b a, Fresh ρ s s1 → Inv F ρ s w → FRel ρ fr b a →
      ∃ ρ1 w1 v', Inv F ρ1 s1 w1 ∧ Ext s1.w ρ ρ1 s s1 w w1 ∧ VRel ρ1 v v' ∧ Ends P (b.atR a fr.todo) w v' w1 := by
  unfold leaveC at h
  split at h
  · rename_i l hro
    obtain ⟨hv, m, hm⟩ := endRoundC_ok P h
    refine ⟨m, fun F hF ρ w b a hf hi hfr => ?_⟩
    obtain ⟨ρ1, w1, i1, e1, rfl, hr⟩ := hm F hF ρ w () hf hi trivial
    rcases hfr.ro with ⟨h1, _⟩ | ⟨l2, l', h1, h2, h3⟩
    · rw [hro] at h1; cases h1
    · rw [hro] at h1
      injection h1 with h1
      subst h1
      have hrun := hr l' h3
      refine ⟨ρ1, w1, .bool jump.isNone, i1, e1, by rw [hv]; exact .bool _, ⟨fun h0 => ?_, fun c cs => .one ?_⟩⟩
      · have : (b.atR a fr.todo).roundOf = b.roundOf := rfl
        rw [this, h2] at h0; cases h0
      · rcases hat with ⟨rfl, h5⟩ | ⟨rfl, k, h5⟩ | ⟨id, k, rfl, h5, h6⟩ | ⟨t, k, rfl, h5, h6⟩
        · rw [h5]; exact stepR_round_end h2 hfr.kind hrun
        · rw [h5]; exact stepR_round_ret h2 hfr.kind hrun
        · rw [h5]; exact stepR_round_exit h2 hfr.kind h6 hrun
        · rw [h5]; exact stepR_round_goto h2 hfr.kind h6 hrun
  · rename_i hro
    split at h
    · rename_i hj
      split at h
      · rename_i fn hfn
        split at h
        · rename_i s2 ht
          obtain ⟨m1, h1⟩ := takeAll_ok P _ _ _ ht
          obtain ⟨r1, h2⟩ := resC_read P h
          refine ⟨m1.trans r1.1, fun F hF ρ w b a hf hi hfr => ?_⟩
          obtain ⟨w1, i1, e1, hst⟩ := h1 F (r1.1.fp.trans hF) ρ w a.tmps a.defers (hf.fst r1.1.n) hi hfr.defers
          obtain ⟨v', hv1, hv2⟩ := h2 F hF ρ w1 a.tmps i1 hfr.tm.2
          have hb0 : b.roundOf = none := by
            rcases hfr.ro with ⟨_, h3⟩ | ⟨l2, l', h3, _⟩
            · exact h3
            · rw [hro] at h3; cases h3
          refine ⟨ρ, w1, v', r1.inv i1, (e1.wider r1.1.w).trans r1.ext, hv2, .of_leave fun cs => ?_⟩
          have h3 : step P (lone (b.atR a fr.todo) cs w) = .next (lone { b.atR a fr.todo with mode := .returning } cs w) := by
            rcases hat with ⟨rfl, h5⟩ | ⟨rfl, k, h5⟩ | ⟨id, k, rfl, h5, h6⟩ | ⟨t, k, rfl, h5, h6⟩
            · rw [h5]; exact stepR_end hb0
            · rw [h5]; exact stepR_ret hb0
            · cases hj
            · cases hj
          refine ⟨{ b.atR { tmps := a.tmps, defers := [] } fr.todo with mode := .returning }, .head h3 (hst b fr.todo cs), rfl, rfl, rfl, hfr.kind, fn, ?_, hv1⟩
          show P.funcs[b.fn]? = some fn
          rw [hfr.fn]; exact hfn
        · cases h
      · cases h
    · cases h

/-! the loop is entered -/
theorem addDefd_ok (P : Program) (s : St) (hn : s.n + 1 < 2 ^ 40) {α : Type} {pre : Map → α → Prop} : Simu P s (s.add .defd) pre (fun _ => newObj (.deferred (some []))) (fun ρ r => ρ s.n = .hard r) :=
  moves_add s _ hn fun ρ w _ _ => ⟨.hard w.heap.size, .deferred (some []), rfl, fun ρ1 w1 _ h1 h2 => .defd _ h1 h2, fun _ => ⟨w.heap.size, rfl, Map.put_self _ _ _⟩⟩
theorem addLoop_ok (P : Program) (s : St) (hn : s.n + 1 < 2 ^ 40) (fn : FuncId) (tm : Tree Value) (sz : Nat) (ps : Array Tmp) (as bo : Code) (d : Nat) :
    Simu P s (s.add (.loop .ready none fn tm sz ps as bo d)) (fun ρ (x : Array Value × Nat) => TRel ρ tm sz x.1 ∧ ρ d = .hard x.2) (fun x => newObj (.loop { state := .ready, pending := none, fn, tmps := x.1, params := ps, assign := as, body := bo, defers := x.2 })) (fun ρ r => ρ s.n = .hard r) :=
  moves_add s _ hn fun ρ w x hx => ⟨.hard w.heap.size, _, rfl, fun ρ1 w1 hl h1 h2 => .loop _ _ _ _ _ _ _ _ _ _ x.1 x.2 h1 (hl.hard hx.2) (hx.1.mono hl) h2, fun _ => ⟨w.heap.size, rfl, Map.put_self _ _ _⟩⟩

def enterLoopC (s : St) (fn : FuncId) (tm : Tree Value) (sz : Nat) (ps : Array Tmp) (as bo : Code) (ro : Option Nat) : Option (Nat × List Nat × St) :=
  if s.n + 2 < 2 ^ 40 then match ro with
    | none => some (s.n + 1, [s.n], (s.add .defd).add (.loop .ready none fn tm sz ps as bo s.n))
    | some l0 => match loopAt s l0 with
      | some (_, _, _, _, _, _, _, _, df) => some (s.n, [], (s.rd l0).add (.loop .ready none fn tm sz ps as bo df))
      | none => none
  else none

theorem enterLoopC_ok (P : Program) {s s1 : St} {fn : FuncId} {tm : Tree Value} {sz : Nat} {ps : Array Tmp} {as bo : Code} {ro : Option Nat} {l : Nat} {mark : List Nat} (h : enterLoopC s fn tm sz ps as bo ro = some (l, mark, s1)) :
    Moves s s1 (fun ρ (x : Array Value × Option Nat) => TRel ρ tm sz x.1 ∧ ((ro = none ∧ x.2 = none) ∨ ∃ l l', ro = some l ∧ x.2 = some l' ∧ ρ l = .hard l'))
      fun _ w x ρ1 w1 => ∃ l' mark', (Instr.enterLoop fn x.1 ps as bo x.2).run P w = .ok (l', mark') w1 ∧ ρ1 l = .hard l' ∧ DRel ρ1 mark mark' := by
  unfold enterLoopC at h
  split at h
  · rename_i hn
    split at h
    · injection h with h; injection h with h1 h; injection h with h2 h3
      subst h1 h2 h3
      have hs := Simu.bind (k := fun (x : Array Value × Option Nat) (d : Nat) => newObj (.loop { state := .ready, pending := none, fn, tmps := x.1, params := ps, assign := as, body := bo, defers := d }) >>= fun r => pure (r, d))
        (addDefd_ok P s (by omega) (pre := fun ρ (x : Array Value × Option Nat) => TRel ρ tm sz x.1 ∧ x.2 = none)) (fun ρ ρ1 x hl hx => ⟨hx.1.mono hl, hx.2⟩)
        (post2 := fun ρ r => ρ (s.n + 1) = .hard r.1 ∧ ρ s.n = .hard r.2)
        ((addLoop_ok P (s.add .defd) (by simp only [St.add]; omega) fn tm sz ps as bo s.n).use (fun z => (z.1.1, z.2)) (fun z r => (r, z.2)) (fun ρ z hz => ⟨hz.1.1, hz.2⟩) (fun ρ w z _ => by rw [Sem.run_bind]; rfl) (fun ρ ρ1 z r hl hz hp => ⟨hp, hl.hard hz.2⟩))
      obtain ⟨m, hm⟩ := hs
      refine ⟨m, fun F hF ρ w x hf hi hx => ?_⟩
      have hx2 : x.2 = none := by
        rcases hx.2 with ⟨_, h1⟩ | ⟨l, l', h1, _⟩
        · exact h1
        · cases h1
      obtain ⟨ρ1, w1, i1, e1, r, hr, hp⟩ := hm F hF ρ w x hf hi ⟨hx.1, hx2⟩
      refine ⟨ρ1, w1, i1, e1, r.1, [{ target := .collected r.2, args := #[] }], ?_, hp.1, ⟨r.2, hp.2, rfl⟩, trivial⟩
      rw [hx2]
      unfold Instr.enterLoop
      simp only [Sem.run_bind, run_newObj, Result.andThen_ok, Sem.run_pure] at hr ⊢
      injection hr with h1 h2
      subst h1 h2
      rfl
    · rename_i l0
      split at h
      · rename_i df hl0
        injection h with h; injection h with h1 h; injection h with h2 h3
        subst h1 h2 h3
        obtain ⟨l1, l2, l3⟩ := loopAt_get hl0
        have hrd : Simu P s (s.rd l0) (fun ρ (x : Array Value × Option Nat) => TRel ρ tm sz x.1 ∧ ∃ l', x.2 = some l' ∧ ρ l0 = .hard l') (fun x => (do pure (← Instr.getLoop (x.2.getD 0)).defers : Sem Nat)) (fun ρ r => ρ df = .hard r) := by
          refine moves_rd s l0 fun ρ w x hx hat _ => ?_
          obtain ⟨_, l', hx2, hx3⟩ := hx
          have hA := hat l1
          rw [l3] at hA
          cases hA with
          | loop b' _ _ _ _ _ _ _ _ _ tmps d' k1 k2 k3 k4 =>
            rw [k1] at hx3
            injection hx3 with hx3
            subst hx3
            refine ⟨d', ?_, k2⟩
            dsimp only
            rw [hx2]
            simp only [Option.getD_some, Sem.run_bind, run_getLoop k4, Result.andThen_ok, Sem.run_pure]
        have hs := Simu.bind (k := fun (x : Array Value × Option Nat) (d : Nat) => newObj (.loop { state := .ready, pending := none, fn, tmps := x.1, params := ps, assign := as, body := bo, defers := d }))
          hrd (fun ρ ρ1 x hl hx => ⟨hx.1.mono hl, hx.2.imp fun l' h => ⟨h.1, hl.hard h.2⟩⟩)
          ((addLoop_ok P (s.rd l0) (by simp only [St.rd]; omega) fn tm sz ps as bo df).use (fun z => (z.1.1, z.2)) (fun z r => r) (fun ρ z hz => ⟨hz.1.1, hz.2⟩) (fun ρ w z _ => rfl) (fun ρ ρ1 z r hl hz hp => hp))
        obtain ⟨m, hm⟩ := hs
        refine ⟨m, fun F hF ρ w x hf hi hx => ?_⟩
        obtain ⟨l', hx2, hx3⟩ : ∃ l', x.2 = some l' ∧ ρ l0 = .hard l' := by
          rcases hx.2 with ⟨h1, _⟩ | ⟨l, l', h1, h2, h3⟩
          · cases h1
          · injection h1 with h1; subst h1; exact ⟨l', h2, h3⟩
        obtain ⟨ρ1, w1, i1, e1, r, hr, hp⟩ := hm F hF ρ w x hf hi ⟨hx.1, l', hx2, hx3⟩
        refine ⟨ρ1, w1, i1, e1, r, [], ?_, hp, trivial⟩
        dsimp only at hr
        rw [hx2] at hr ⊢
        unfold Instr.enterLoop
        simp only [Option.getD_some, Sem.run_bind, andThen_assoc, Sem.run_pure, Result.andThen_ok] at hr ⊢
        cases hg : (Instr.getLoop l').run P w with
        | ok q w2 =>
          rw [hg] at hr
          simp only [Result.andThen_ok, run_newObj] at hr ⊢
          injection hr with h1 h2
          subst h1 h2
          rfl
        | halt q w2 => rw [hg] at hr; cases hr
      · cases h
  · cases h
end Go.Canon
