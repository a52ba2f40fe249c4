/-
  More operations: addresses, calls, tuples, comparisons with nil, new slices, parts of slices.
-/
import Derived.Test.YtjdjmeiahchblaaGreatDoorCanD
namespace Go.Canon

theorem AdR.add {ρ : Map} {a a' : Addr} (h : AdR ρ a a') (n : Nat) : AdR ρ (a.add n) (a'.add n) := by
  unfold Addr.add
  by_cases e : n = 0
  · simp only [e, if_true]; exact h
  · simp only [e, if_false]
    rcases h with ⟨h1, h2, h3⟩ | h
    · exact .inl ⟨h1, by simp [h2], rfl⟩
    · exact .inr h
theorem VRel.slice_inv {ρ : Map} {a : Addr} {n c : Nat} {v : Value} (h : VRel ρ (.slice (some a) n c) v) : ∃ a' c', v = .slice (some a') n c' ∧ AdR ρ a a' := by
  cases h with
  | slHard _ b' _ _ e => exact ⟨_, _, rfl, .inl ⟨by rw [e]; rfl, rfl, rfl⟩⟩
  | slSoft _ b' m es _ _ c' e _ _ => exact ⟨_, _, rfl, .inl ⟨by rw [e]; rfl, rfl, rfl⟩⟩
  | slDead _ a' _ _ c' e => exact ⟨_, _, rfl, .inr e⟩
theorem VRel.int_inv {ρ : Map} {k : IntKind} {n : Int} {v : Value} (h : VRel ρ (.int k n) v) : v = .int k n := by cases h; rfl
theorem VRel.bool_inv {ρ : Map} {b : Bool} {v : Value} (h : VRel ρ (.bool b) v) : v = .bool b := by cases h; rfl
theorem VRel.string_inv {ρ : Map} {b : ByteArray} {v : Value} (h : VRel ρ (.string b) v) : v = .string b := by cases h; rfl
theorem VRel.tuple_inv {ρ : Map} {x : Array Value} {v : Value} (h : VRel ρ (.tuple x) v) : ∃ x', v = .tuple x' ∧ ARel ρ x x' := by
  cases h with
  | tuple _ x' h1 h2 => exact ⟨x', rfl, h1, h2⟩
theorem VRel.agg_inv {ρ : Map} {x : Array Value} {v : Value} (h : VRel ρ (.agg x) v) : ∃ x', v = .agg x' ∧ ARel ρ x x' := by
  cases h with
  | agg _ x' h1 h2 => exact ⟨x', rfl, h1, h2⟩
theorem VRel.func_inv {ρ : Map} {f : FuncId} {x y : Array Value} {v : Value} (h : VRel ρ (.func (.func f) x y) v) : ∃ x' y', v = .func (.func f) x' y' ∧ ARel ρ x x' ∧ ARel ρ y y' := by
  cases h with
  | func _ _ x' _ y' h1 h2 h3 h4 => exact ⟨x', y', rfl, ⟨h1, h2⟩, h3, h4⟩

theorem ARel.append {ρ : Map} {x x' y y' : Array Value} (h : ARel ρ x x') (k : ARel ρ y y') : ARel ρ (x ++ y) (x' ++ y') := by
  refine ⟨by simp [h.1, k.1], fun i h1 h2 => ?_⟩
  by_cases hi : i < x.size
  · rw [Array.getElem_append_left hi, Array.getElem_append_left (h.1 ▸ hi)]
    exact h.2 i hi _
  · rw [Array.getElem_append_right (by omega), Array.getElem_append_right (by rw [← h.1]; omega)]
    have e := h.1
    have : i - x.size = i - x'.size := by omega
    simp only [← e]
    exact k.2 _ _ _
theorem ARel.map {α : Type} {ρ : Map} (xs : Array α) (f g : α → Value) (h : ∀ x ∈ xs, VRel ρ (f x) (g x)) : ARel ρ (xs.map f) (xs.map g) :=
  ⟨by simp, fun i h1 h2 => by simp only [Array.getElem_map]; exact h _ (by simp)⟩

/-! addresses of parts -/
def fieldAddrC (P : Program) (st : TypeId) (v : Value) (f : Nat) : Option Value :=
  match v with
  | .pointer (some a) => match P.underlying st with
    | some (.struct fields) => match fields[f]? with
      | some fd => match P.info? fd.type with
        | some i => if i.size = 0 then none else some (.pointer (some (a.add fd.offset)))
        | none => none
      | none => none
    | _ => none
  | _ => none
theorem fieldAddr_ok (P : Program) (ev : Operand → Value) {o : Oper} {st : TypeId} {x : Operand} {f : Nat} (s : St) {v : Value} (ho : o.op = .fieldAddr st x f) (h : fieldAddrC P st (ev x) f = some v) : OpOk P ev o s s (.val v) := by
  unfold fieldAddrC at h
  split at h
  · rename_i a hx
    split at h
    · rename_i fields hd
      split at h
      · rename_i fd hf
        split at h
        · rename_i i hi
          split at h
          · cases h
          · rename_i hsz
            injection h with h
            subst h
            refine Simu.still fun ρ w ev' he => ?_
            have h1 := he x (by simp [ho, Op.operands])
            rw [hx] at h1
            obtain ⟨a', e, hr⟩ := h1.ptr_inv
            refine ⟨_, ?_, .val _ _ (hr.add fd.offset).ptr⟩
            simp [execOp, ho, Instr.fieldAt, e, Instr.sureAddr, fieldPlace, run_underlying_of hd, hf, run_sizeOf_of hi, hsz]
        · cases h
      · cases h
    · cases h
  · cases h

def indexAddrC (P : Program) (t : TypeId) (x i : Value) : Option Value :=
  match i with
  | .int _ n => match P.underlying t, x with
    | some (.array len elem), .pointer (some a) => match P.info? elem with
      | some ie => if 0 ≤ n ∧ n < len then some (.pointer (some (a.add (n.toNat * ie.size)))) else none
      | none => none
    | some (.slice elem), .slice (some a) len _ => match P.info? elem with
      | some ie => if 0 ≤ n ∧ n < len then some (.pointer (some (a.add (n.toNat * ie.size)))) else none
      | none => none
    | _, _ => none
  | _ => none
theorem indexAddr_ok (P : Program) (ev : Operand → Value) {o : Oper} {t : TypeId} {x i : Operand} (s : St) {v : Value} (ho : o.op = .indexAddr t x i) (h : indexAddrC P t (ev x) (ev i) = some v) : OpOk P ev o s s (.val v) := by
  unfold indexAddrC at h
  split at h
  · rename_i k n hn
    split at h
    · rename_i len elem a hd hx
      split at h
      · rename_i ie hi
        split at h
        · rename_i hlt
          injection h with h
          subst h
          refine Simu.still fun ρ w ev' he => ?_
          have h1 := he x (by simp [ho, Op.operands])
          have h2 := he i (by simp [ho, Op.operands])
          rw [hx] at h1
          rw [hn] at h2
          obtain ⟨a', e, hr⟩ := h1.ptr_inv
          have e2 := h2.int_inv
          refine ⟨_, ?_, .val _ _ (hr.add (n.toNat * ie.size)).ptr⟩
          simp [execOp, ho, Instr.indexAt, e, e2, asIntOf, Instr.sureAddr, run_underlying_of hd, run_sizeOf_of hi, hlt]
        · cases h
      · cases h
    · rename_i elem a len c hd hx
      split at h
      · rename_i ie hi
        split at h
        · rename_i hlt
          injection h with h
          subst h
          refine Simu.still fun ρ w ev' he => ?_
          have h1 := he x (by simp [ho, Op.operands])
          have h2 := he i (by simp [ho, Op.operands])
          rw [hx] at h1
          rw [hn] at h2
          obtain ⟨a', c', e, hr⟩ := h1.slice_inv
          have e2 := h2.int_inv
          refine ⟨_, ?_, .val _ _ (hr.add (n.toNat * ie.size)).ptr⟩
          simp [execOp, ho, Instr.indexAt, e, e2, asIntOf, Instr.sureAddr, run_underlying_of hd, run_sizeOf_of hi, hlt]
        · cases h
      · cases h
    · cases h
  · cases h

/-! calls of functions with a body -/
def NG (P : Program) : Prop := ∀ (f : Nat) (fn : Func), P.funcs[f]? = some fn → fn.body.isSome = true → (fn.name == "runtime.NumGoroutine") = false

theorem run_callFunc {P : Program} (hP : NG P) {f : Nat} {fn : Func} (hf : P.funcs[f]? = some fn) (hb : fn.body.isSome = true) (args : Array Value) (w : World) : (callFunc f args).run P w = .ok (.enter f args) w := by
  have h1 : ¬ fn.name = "runtime.NumGoroutine" := by simpa using hP f fn hf hb
  have h2 : ¬ fn.body = none := by intro e; rw [e] at hb; cases hb
  simp [callFunc, hf, h1, h2]

def callC (P : Program) (ev : Operand → Value) (c : Call) : Option NextC :=
  match c.callee with
  | .value fo => match ev fo with
    | .func (.func f) first cap => match P.funcs[f]? with
      | some fn => if fn.body.isSome then some (.enter f (first ++ c.args.map ev ++ cap)) else none
      | none => none
    | _ => none
  | _ => none
theorem call_ok (P : Program) (hP : NG P) (ev : Operand → Value) {o : Oper} {c : Call} (s : St) {n : NextC} (ho : o.op = .call c) (h : callC P ev c = some n) : OpOk P ev o s s n := by
  unfold callC at h
  split at h
  · rename_i fo hc
    split at h
    · rename_i f first cap hx
      split at h
      · rename_i fn hf
        split at h
        · rename_i hb
          injection h with h
          subst h
          refine Simu.still fun ρ w ev' he => ?_
          have h1 := he fo (by simp [ho, Op.operands, Call.operands, hc])
          rw [hx] at h1
          obtain ⟨x', y', e, hr1, hr2⟩ := h1.func_inv
          have hargs := ARel.map (ρ := ρ) c.args ev ev' fun z hz => he z (by simp [ho, Op.operands, Call.operands, hz])
          refine ⟨.enter f (x' ++ c.args.map ev' ++ y'), ?_, .enter _ _ _ ((hr1.append hargs).append hr2)⟩
          simp [execOp, ho, resolve, hc, e, Deferred.ofValue, invoke, run_callFunc hP hf hb]
        · cases h
      · cases h
    · cases h
  · cases h

/-! tuples -/
def extractC (v : Value) (i : Nat) : Option Value :=
  match v with
  | .tuple vs => vs[i]?
  | _ => none
theorem extract_ok (P : Program) (ev : Operand → Value) {o : Oper} {x : Operand} {i : Nat} (s : St) {v : Value} (ho : o.op = .extract x i) (h : extractC (ev x) i = some v) : OpOk P ev o s s (.val v) := by
  unfold extractC at h
  split at h
  · rename_i vs hx
    refine Simu.still fun ρ w ev' he => ?_
    have h1 := he x (by simp [ho, Op.operands])
    rw [hx] at h1
    obtain ⟨x', e, hr⟩ := h1.tuple_inv
    obtain ⟨v', e1, e2⟩ := hr.prel i v (by rw [Array.getElem?_toList]; exact h)
    refine ⟨.value v', ?_, .val _ _ e2⟩
    simp [execOp, ho, Instr.extract, e, e1]
  · cases h

/-! what is no nil pointer -/
def nilCheckC (v : Value) : Option Value :=
  match v with
  | .pointer (some a) => some (.pointer (some a))
  | .func (.func f) x y => some (.func (.func f) x y)
  | _ => none
theorem nilCheck_ok (P : Program) (ev : Operand → Value) {o : Oper} {x : Operand} (s : St) {v : Value} (ho : o.op = .nilCheck x) (h : nilCheckC (ev x) = some v) : OpOk P ev o s s (.val v) := by
  unfold nilCheckC at h
  split at h
  · rename_i a hx
    injection h with h
    subst h
    refine Simu.still fun ρ w ev' he => ?_
    have h1 := he x (by simp [ho, Op.operands])
    rw [hx] at h1
    obtain ⟨a', e, hr⟩ := h1.ptr_inv
    exact ⟨.value (.pointer (some a')), by simp [execOp, ho, e], .val _ _ hr.ptr⟩
  · rename_i f x0 y0 hx
    injection h with h
    subst h
    refine Simu.still fun ρ w ev' he => ?_
    have h1 := he x (by simp [ho, Op.operands])
    rw [hx] at h1
    obtain ⟨x', y', e, hr1, hr2⟩ := h1.func_inv
    exact ⟨.value (.func (.func f) x' y'), by simp [execOp, ho, e], .val _ _ (.func f _ _ _ _ hr1.1 hr1.2 hr2.1 hr2.2)⟩
  · cases h

/-! comparisons with nil -/
def nilEq (d : TypeDesc) (x y : Value) : Option Bool :=
  match d, x, y with
  | .slice _, .slice none _ _, .slice b _ _ => some b.isNone
  | .slice _, .slice (some _) _ _, .slice none _ _ => some false
  | .pointer _, .pointer none, .pointer b => some b.isNone
  | .pointer _, .pointer (some _), .pointer none => some false
  | .func _ _ _, .nilFunc, .func (.func _) _ _ => some false
  | .func _ _ _, .func (.func _) _ _, .nilFunc => some false
  | .interface _, .nilIface, .iface _ _ => some false
  | .interface _, .iface _ _, .nilIface => some false
  | _, _, _ => none
theorem nilEq_run (P : Program) {t : TypeId} {d : TypeDesc} (hd : P.underlying t = some d) {ρ : Map} {x y x' y' : Value} {b : Bool} (hx : VRel ρ x x') (hy : VRel ρ y y') (h : nilEq d x y = some b) (w : World) :
    (Op.equal t x' y').run P w = .ok b w ∧ (∀ op a c, (eqGuard op t a c x' y').run P w = .ok () w) := by
  unfold nilEq at h
  have hm : Op.maxDepth = 9999 + 1 := rfl
  refine ⟨?_, ?_⟩
  · unfold Op.equal
    rw [hm]
    unfold Op.equalIn
    rw [Sem.run_bind, run_underlying_of hd, Result.andThen_ok]
    split at h <;> first | (cases h; done) | (injection h with h; subst h; cases hx <;> cases hy <;> rfl)
  · intro op a c
    unfold eqGuard
    split at h <;> first | (cases h; done) | (injection h with h; subst h; cases hx <;> cases hy <;> (cases op <;> rfl))
end Go.Canon
