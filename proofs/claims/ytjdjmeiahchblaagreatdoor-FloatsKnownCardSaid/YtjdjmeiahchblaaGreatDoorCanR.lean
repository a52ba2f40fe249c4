/-
  Loops over functions, results: the canonical ones and the model's.
-/
import Derived.Test.YtjdjmeiahchblaaGreatDoorCanQ
namespace Go.Canon

/-! the record of a loop is turned -/
theorem loop_turn {s : St} {l : Nat} {st : LoopState} {pe : Option Code} {fn : FuncId} {tm : Tree Value} {sz : Nat} {ps : Array Tmp} {as bo : Code} {df : Nat} (h : loopAt s l = some (st, pe, fn, tm, sz, ps, as, bo, df)) (st2 : LoopState) (pe2 : Option Code)
    {R : Map → World → Unit → Map → World → Prop} (hR : ∀ ρ w l' tmps d', ρ l = .hard l' → w.heap[l']? = some (.loop { state := st, pending := pe, fn, tmps, params := ps, assign := as, body := bo, defers := d' }) →
      R ρ w () ρ (setB w l' (.loop { state := st2, pending := pe2, fn, tmps, params := ps, assign := as, body := bo, defers := d' }))) :
    Moves s (s.wr l (.loop st2 pe2 fn tm sz ps as bo df)) (fun _ _ => True) R := by
  obtain ⟨l1, l2, l3⟩ := loopAt_get h
  refine moves_wr s l _ l1 l2 fun ρ w x _ hA => ?_
  rw [l3] at hA
  cases hA with
  | loop b' _ _ _ _ _ _ _ _ _ tmps d' k1 k2 k3 k4 =>
    exact ⟨b', _, by rw [k1]; rfl, fun w1 hw1 => .loop b' _ _ _ _ _ _ _ _ _ tmps d' k1 k2 k3 hw1, hR ρ w b' tmps d' k1 k4⟩

def endRoundC (s : St) (l : Nat) (jump : Option Code) : Option (Value × St) :=
  match loopAt s l with
  | some (_, _, fn, tm, sz, ps, as, bo, df) => some (.bool jump.isNone, s.wr l (.loop (if jump.isNone then .ready else .done) jump fn tm sz ps as bo df))
  | none => none
theorem endRoundC_ok (P : Program) {s s1 : St} {l : Nat} {jump : Option Code} {v : Value} (h : endRoundC s l jump = some (v, s1)) :
    v = .bool jump.isNone ∧ Moves s s1 (fun (_ : Map) (_ : Unit) => True) fun ρ w _ ρ1 w1 => ρ1 = ρ ∧ ∀ l', ρ l = .hard l' → (Instr.endRound l' jump).run P w = .ok (.bool jump.isNone) w1 := by
  unfold endRoundC at h
  split at h
  · rename_i st pe fn tm sz ps as bo df hl
    injection h with h; injection h with h1 h2
    subst h1 h2
    refine ⟨rfl, loop_turn hl _ _ fun ρ w l' tmps d' k1 k2 => ⟨rfl, fun l2 hl2 => ?_⟩⟩
    rw [k1] at hl2
    injection hl2 with hl2
    subst hl2
    unfold Instr.endRound
    rw [Sem.run_bind, run_getLoop k2, Result.andThen_ok, Sem.run_bind, run_setObj k2]
    rfl
  · cases h

def beginRoundC (s : St) (l : Nat) : Option St :=
  match loopAt s l with
  | some (.ready, pe, fn, tm, sz, ps, as, bo, df) => some (s.wr l (.loop .busy pe fn tm sz ps as bo df))
  | _ => none
theorem beginRoundC_ok (P : Program) {s s1 : St} {l : Nat} (h : beginRoundC s l = some s1) :
    Moves s s1 (fun (_ : Map) (_ : Unit) => True) fun ρ w _ ρ1 w1 => ρ1 = ρ ∧ ∀ l', ρ l = .hard l' → (Instr.beginRound l').run P w = .ok () w1 := by
  unfold beginRoundC at h
  split at h
  · rename_i pe fn tm sz ps as bo df hl
    injection h with h
    subst h
    refine loop_turn hl _ _ fun ρ w l' tmps d' k1 k2 => ⟨rfl, fun l2 hl2 => ?_⟩
    rw [k1] at hl2
    injection hl2 with hl2
    subst hl2
    unfold Instr.beginRound
    rw [Sem.run_bind, run_getLoop k2, Result.andThen_ok, Sem.run_bind, run_setObj k2]
    rfl
  · cases h

def endLoopC (s : St) (l : Nat) : Option (Option Code × St) :=
  match loopAt s l with
  | some (st, pe, fn, tm, sz, ps, as, bo, df) => if st = .busy then none else some (pe, s.wr l (.loop .exhausted pe fn tm sz ps as bo df))
  | none => none
theorem endLoopC_ok (P : Program) {s s1 : St} {l : Nat} {pe : Option Code} (h : endLoopC s l = some (pe, s1)) :
    Moves s s1 (fun (_ : Map) (_ : Unit) => True) fun ρ w _ ρ1 w1 => ρ1 = ρ ∧ ∀ l', ρ l = .hard l' → (Instr.endLoop l').run P w = .ok pe w1 := by
  unfold endLoopC at h
  split at h
  · rename_i st pe2 fn tm sz ps as bo df hl
    split at h
    · cases h
    · rename_i hst
      injection h with h; injection h with h1 h2
      subst h1 h2
      refine loop_turn hl _ _ fun ρ w l' tmps d' k1 k2 => ⟨rfl, fun l2 hl2 => ?_⟩
      rw [k1] at hl2
      injection hl2 with hl2
      subst hl2
      unfold Instr.endLoop
      rw [Sem.run_bind, run_getLoop k2, Result.andThen_ok]
      have hb : (st == LoopState.busy) = false := by simpa using hst
      simp only [hb, Bool.false_eq_true, if_false]
      rw [Sem.run_bind, run_setObj k2]
      rfl
  · cases h

def takeC (s : St) (d : Nat) : Option St :=
  if d < s.n ∧ d + 1 < 2 ^ 40 then match s.t.get d with
    | some .defd => some (s.wr d .dead)
    | _ => none
  else none
theorem takeC_ok (P : Program) {s s1 : St} {d : Nat} (h : takeC s d = some s1) :
    Moves s s1 (fun (_ : Map) (_ : Unit) => True) fun ρ w _ ρ1 w1 => ρ1 = ρ ∧ ∀ d', ρ d = .hard d' → (Instr.takeDeferred d').run P w = .ok [] w1 := by
  unfold takeC at h
  split at h
  · rename_i hd
    split at h
    · rename_i hg
      injection h with h
      subst h
      refine moves_wr s d _ hd.1 hd.2 fun ρ w x _ hA => ?_
      rw [hg] at hA
      cases hA with
      | defd b' k1 k2 =>
        refine ⟨b', .deferred none, by rw [k1]; rfl, fun w1 _ => .dead, rfl, fun d2 hd2 => ?_⟩
        rw [k1] at hd2
        injection hd2 with hd2
        subst hd2
        unfold Instr.takeDeferred
        simp [getObj, setObj, Sem.run, k2, setB]
    · cases h
  · cases h

/-! results -/
def loadR (P : Program) (t : TypeId) (v : Value) (s : St) : Option (Value × St) :=
  match loadC P t v s with
  | some (.val v, s1) => some (v, s1)
  | _ => none
theorem ld1_shape {s s1 : St} {a : Addr} {v : Value} (h : ld1 s a = some (v, s1)) : s1 = s ∨ ∃ b, s1 = s.rd b := by
  unfold ld1 at h
  split at h
  · rename_i v2 s2 hl
    injection h with h; injection h with h1 h2
    subst h1 h2
    exact (ldCs_shape hl).1.imp id (fun e => ⟨_, e⟩)
  · cases h
theorem ld1_read (P : Program) {s s1 : St} {a : Addr} {v : Value} (h : ld1 s a = some (v, s1)) {F : Nat} (hF : Sub s1.fp F) {ρ : Map} {w : World} (hi : Inv F ρ s w) {a' : Addr} (ha : AdR ρ a a') :
    ∃ r, (load a').run P w = .ok r w ∧ VRel ρ v r := by
  unfold ld1 at h
  split at h
  · rename_i v2 s2 hl
    injection h with h; injection h with h1 h2
    subst h1 h2
    obtain ⟨r, h1, h2⟩ := ldCs_read P hl hF hi ha
    obtain ⟨v, rfl, hv⟩ := loadCells_one P w a' r w (h1 w rfl)
    exact ⟨v, hv, h2.2 0 (by simp) (by simp)⟩
  · cases h
theorem loadR_shape {P : Program} {t : TypeId} {v u : Value} {s s1 : St} (h : loadR P t v s = some (u, s1)) : s1 = s ∨ ∃ b, s1 = s.rd b := by
  unfold loadR at h
  split at h
  · rename_i u2 s2 hl
    injection h with h; injection h with h1 h2
    subst h1 h2
    unfold loadC at hl
    split at hl
    · split at hl
      · split at hl
        · split at hl
          · split at hl
            · rename_i hld
              injection hl with hl; injection hl with h1 h2
              subst h2
              exact (ldCs_shape hld).1.imp id (fun e => ⟨_, e⟩)
            · cases hl
          · cases hl
        · split at hl
          · rename_i hld
            injection hl with hl; injection hl with h1 h2
            subst h2
            exact ld1_shape hld
          · cases hl
      · cases hl
    · cases hl
  · cases h
theorem loadR_read (P : Program) {t : TypeId} {v u : Value} {s s1 : St} (h : loadR P t v s = some (u, s1)) {F : Nat} (hF : Sub s1.fp F) {ρ : Map} {w : World} (hi : Inv F ρ s w) {v' : Value} (hv : VRel ρ v v') :
    ∃ r, (do loadVar t (← asAddr v')).run P w = .ok r w ∧ VRel ρ u r := by
  unfold loadR at h
  split at h
  · rename_i u2 s2 hl
    injection h with h; injection h with h1 h2
    subst h1 h2
    unfold loadC at hl
    split at hl
    · rename_i a
      obtain ⟨a', e, ha⟩ := hv.ptr_inv
      subst e
      split at hl
      · rename_i d hd
        split at hl
        · rename_i hagg
          split at hl
          · rename_i i hinfo
            split at hl
            · rename_i l s3 hld
              injection hl with hl; injection hl with h1 h2
              injection h1 with h1
              subst h1 h2
              obtain ⟨r, r1, r2⟩ := ldCs_read P hld hF hi ha
              refine ⟨.agg r, ?_, .agg_of r2⟩
              simp only [asAddr, Sem.run_bind, Sem.run_pure, Result.andThen_ok, loadVar, run_isAgg_of hd, hagg, if_true, run_sizeOf_of hinfo, r1 w rfl]
            · cases hl
          · cases hl
        · rename_i hagg
          split at hl
          · rename_i x s3 hld
            injection hl with hl; injection hl with h1 h2
            injection h1 with h1
            subst h1 h2
            obtain ⟨r, r1, r2⟩ := ld1_read P hld hF hi ha
            refine ⟨r, ?_, r2⟩
            simp only [asAddr, Sem.run_bind, Sem.run_pure, Result.andThen_ok, loadVar, run_isAgg_of hd, hagg, Bool.false_eq_true, if_false, r1]
          · cases hl
      · cases hl
    · cases hl
  · cases h

def resL (P : Program) (tm : Tree Value) : List ResultVar → St → Option (List Value × St)
  | [], s => some ([], s)
  | .tmp t :: rs, s => match resL P tm rs s with
    | some (l, s1) => some ((tm.get t).getD undef :: l, s1)
    | none => none
  | .cell a t :: rs, s => match loadR P t ((tm.get a).getD undef) s with
    | some (v, s1) => match resL P tm rs s1 with
      | some (l, s2) => some (v :: l, s2)
      | none => none
    | none => none
def resC (P : Program) (fn : Func) (tm : Tree Value) (s : St) : Option (Value × St) :=
  match resL P tm fn.results.toList s with
  | some ([v], s1) => some (v, s1)
  | some (l, s1) => some (.tuple ⟨l⟩, s1)
  | none => none

def ReadOf (s s1 : St) : Prop := Mono s s1 ∧ s1.t = s.t ∧ s1.n = s.n ∧ s1.w = s.w
theorem ReadOf.refl (s : St) : ReadOf s s := ⟨.refl s, rfl, rfl, rfl⟩
theorem ReadOf.trans {a b c : St} (h : ReadOf a b) (k : ReadOf b c) : ReadOf a c := ⟨h.1.trans k.1, k.2.1.trans h.2.1, k.2.2.1.trans h.2.2.1, k.2.2.2.trans h.2.2.2⟩
theorem ReadOf.of {s s1 : St} (h : s1 = s ∨ ∃ b, s1 = s.rd b) : ReadOf s s1 := ⟨Mono.rd h, by rcases h with e | ⟨b, e⟩ <;> (subst e; rfl), by rcases h with e | ⟨b, e⟩ <;> (subst e; rfl), by rcases h with e | ⟨b, e⟩ <;> (subst e; rfl)⟩
theorem ReadOf.inv {s s1 : St} (h : ReadOf s s1) {F : Nat} {ρ : Map} {w : World} (hi : Inv F ρ s w) : Inv F ρ s1 w := ⟨by rw [h.2.1, h.2.2.1]; exact hi.at_, hi.inj, hi.lt⟩
theorem ReadOf.ext {s s1 : St} (h : ReadOf s s1) {W : Nat} {ρ : Map} {w : World} : Ext W ρ ρ s s1 w w :=
  ⟨.refl _, h.1.n, fun b _ _ => by rw [h.2.1], fun _ _ _ => rfl, fun _ _ => rfl, fun _ _ => .inl rfl, fun _ _ _ => rfl, Nat.le_refl _, fun b c h1 h2 => absurd h1 (by rw [h.2.2.1] at h2; omega), rfl, rfl, rfl⟩

def resF (tmps : Array Value) : ResultVar → Sem Value
  | .tmp t => pure (tmps.getD t undef)
  | .cell a t => do loadVar t (← asAddr (tmps.getD a undef))
theorem results_eq (fn : Func) (tmps : Array Value) : results fn tmps = (fn.results.mapM (resF tmps) >>= fun vs => pure (if h : vs.size = 1 then vs[0] else .tuple vs)) := by
  unfold results
  congr 1
theorem resL_read (P : Program) {tm : Tree Value} : ∀ (rs : List ResultVar) (s s1 : St) (l : List Value), resL P tm rs s = some (l, s1) → ReadOf s s1 ∧ ∀ F, Sub s1.fp F → ∀ ρ w (tmps : Array Value), Inv F ρ s w → (∀ t, VRel ρ ((tm.get t).getD undef) (tmps.getD t undef)) →
    ∃ l', (rs.mapM (resF tmps) : Sem (List Value)).run P w = .ok l' w ∧ LRel ρ l l'
  | [], s, s1, l, h => by
    simp only [resL] at h; injection h with h; injection h with h1 h2; subst h1 h2
    exact ⟨.refl _, fun F _ ρ w tmps _ _ => ⟨[], rfl, trivial⟩⟩
  | .tmp t :: rs, s, s1, l, h => by
    simp only [resL] at h
    split at h
    · rename_i l2 s2 hr
      injection h with h; injection h with h1 h2; subst h1 h2
      obtain ⟨k1, k2⟩ := resL_read P rs s _ l2 hr
      refine ⟨k1, fun F hF ρ w tmps hi ht => ?_⟩
      obtain ⟨l', e1, e2⟩ := k2 F hF ρ w tmps hi ht
      refine ⟨tmps.getD t undef :: l', ?_, ht t, e2⟩
      rw [List.mapM_cons]
      simp only [resF, Sem.run_bind, Sem.run_pure, Result.andThen_ok, e1]
    · cases h
  | .cell a t :: rs, s, s1, l, h => by
    simp only [resL] at h
    split at h
    · rename_i v s2 hld
      split at h
      · rename_i l2 s3 hr
        injection h with h; injection h with h1 h2; subst h1 h2
        obtain ⟨k1, k2⟩ := resL_read P rs s2 _ l2 hr
        have r1 := ReadOf.of (loadR_shape hld)
        refine ⟨r1.trans k1, fun F hF ρ w tmps hi ht => ?_⟩
        obtain ⟨r, q1, q2⟩ := loadR_read P hld (k1.1.fp.trans hF) hi (ht a)
        obtain ⟨l', e1, e2⟩ := k2 F hF ρ w tmps (r1.inv hi) ht
        refine ⟨r :: l', ?_, q2, e2⟩
        rw [List.mapM_cons]
        have q1' : (resF tmps (.cell a t)).run P w = .ok r w := q1
        rw [Sem.run_bind, q1', Result.andThen_ok, Sem.run_bind, e1]
        rfl
      · cases h
    · cases h

theorem resC_read (P : Program) {fn : Func} {tm : Tree Value} {s s1 : St} {v : Value} (h : resC P fn tm s = some (v, s1)) : ReadOf s s1 ∧ ∀ F, Sub s1.fp F → ∀ ρ w (tmps : Array Value), Inv F ρ s w → (∀ t, VRel ρ ((tm.get t).getD undef) (tmps.getD t undef)) →
    ∃ v', (results fn tmps).run P w = .ok v' w ∧ VRel ρ v v' := by
  have key : ∀ (l' : List Value) (w : World) (tmps : Array Value), (fn.results.toList.mapM (resF tmps) : Sem (List Value)).run P w = .ok l' w →
      (results fn tmps).run P w = .ok (if h : l'.length = 1 then l'[0] else .tuple ⟨l'⟩) w := by
    intro l' w tmps hrun
    rw [results_eq, Array.mapM_eq_mapM_toList, Sem.run_bind, Sem.run_map, hrun]
    simp only [Result.andThen_ok, Sem.run_pure]
    rfl
  unfold resC at h
  split at h
  · rename_i v2 s2 hr
    injection h with h; injection h with h1 h2; subst h1 h2
    obtain ⟨k1, k2⟩ := resL_read P _ _ _ _ hr
    refine ⟨k1, fun F hF ρ w tmps hi ht => ?_⟩
    obtain ⟨l', e1, e2⟩ := k2 F hF ρ w tmps hi ht
    cases l' with
    | nil => exact e2.elim
    | cons x l' => cases l' with
      | nil => exact ⟨x, key _ w tmps e1, e2.1⟩
      | cons _ _ => exact e2.2.elim
  · rename_i l s2 hne hr
    injection h with h; injection h with h1 h2; subst h1 h2
    obtain ⟨k1, k2⟩ := resL_read P _ _ _ _ hr
    refine ⟨k1, fun F hF ρ w tmps hi ht => ?_⟩
    obtain ⟨l', e1, e2⟩ := k2 F hF ρ w tmps hi ht
    have hlen : ¬ l'.length = 1 := by
      rw [← e2.length]
      intro h1
      cases l with
      | nil => cases h1
      | cons x l => cases l with
        | nil => exact hne x rfl
        | cons _ _ => simp at h1
    refine ⟨.tuple ⟨l'⟩, ?_, .tuple_of e2.arel⟩
    rw [key _ w tmps e1, dif_neg hlen]
  · cases h
end Go.Canon
