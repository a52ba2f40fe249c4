/-
  More operations: addresses, calls, tuples, comparisons with nil, new slices, parts of slices.
-/
import Derived.Test.YtnpocnckkaddbaaGreatDoorP01
set_option linter.unusedVariables false
set_option linter.unusedSimpArgs false
set_option linter.unusedSectionVars false
namespace Go.Canon
variable [Ghosts]

theorem AdR.add {ρ : Map} {a a' : Addr} (h : AdR ρ a a') (n : Nat) : AdR ρ (a.add n) (a'.add n) := by
  unfold Addr.add
  by_cases e : n = 0
  · simp only [e, if_true]; exact h
  · simp only [e, if_false]
    rcases h with ⟨h1, h2, h3⟩ | h
    · exact .inl ⟨h1, by simp [h2], rfl⟩
    · exact .inr h
theorem VRel.slice_inv {ρ : Map} {a : Addr} {n c : Nat} {v : Value} (h : VRel ρ (.slice (some a) n c) v) : ∃ a' c', v = .slice (some a') n c' ∧ AdR ρ a a' := by
  cases h with
  | slHard _ b' _ _ e => exact ⟨_, _, rfl, .inl ⟨by rw [e]; rfl, rfl, rfl⟩⟩
  | slSoft _ b' m es _ _ c' e _ _ => exact ⟨_, _, rfl, .inl ⟨by rw [e]; rfl, rfl, rfl⟩⟩
  | slDead _ a' _ _ c' e => exact ⟨_, _, rfl, .inr e⟩
theorem VRel.int_inv {ρ : Map} {k : IntKind} {n : Int} {v : Value} (h : VRel ρ (.int k n) v) : v = .int k n := by cases h; rfl
theorem VRel.bool_inv {ρ : Map} {b : Bool} {v : Value} (h : VRel ρ (.bool b) v) : v = .bool b := by cases h; rfl
theorem VRel.string_inv {ρ : Map} {b : ByteArray} {v : Value} (h : VRel ρ (.string b) v) : v = .string b := by cases h; rfl
theorem VRel.tuple_inv {ρ : Map} {x : Array Value} {v : Value} (h : VRel ρ (.tuple x) v) : ∃ x', v = .tuple x' ∧ ARel ρ x x' := by
  cases h with
  | tuple _ x' h1 h2 => exact ⟨x', rfl, h1, h2⟩
theorem VRel.agg_inv {ρ : Map} {x : Array Value} {v : Value} (h : VRel ρ (.agg x) v) : ∃ x', v = .agg x' ∧ ARel ρ x x' := by
  cases h with
  | agg _ x' h1 h2 => exact ⟨x', rfl, h1, h2⟩
theorem VRel.func_inv {ρ : Map} {f : FuncId} {x y : Array Value} {v : Value} (h : VRel ρ (.func (.func f) x y) v) : ∃ x' y', v = .func (.func f) x' y' ∧ ARel ρ x x' ∧ ARel ρ y y' := by
  cases h with
  | func _ _ x' _ y' h1 h2 h3 h4 => exact ⟨x', y', rfl, ⟨h1, h2⟩, h3, h4⟩

theorem ARel.append {ρ : Map} {x x' y y' : Array Value} (h : ARel ρ x x') (k : ARel ρ y y') : ARel ρ (x ++ y) (x' ++ y') := by
  refine ⟨by simp [h.1, k.1], fun i h1 h2 => ?_⟩
  by_cases hi : i < x.size
  · rw [Array.getElem_append_left hi, Array.getElem_append_left (h.1 ▸ hi)]
    exact h.2 i hi _
  · rw [Array.getElem_append_right (by omega), Array.getElem_append_right (by rw [← h.1]; omega)]
    have e := h.1
    have : i - x.size = i - x'.size := by omega
    simp only [← e]
    exact k.2 _ _ _
theorem ARel.map {α : Type} {ρ : Map} (xs : Array α) (f g : α → Value) (h : ∀ x ∈ xs, VRel ρ (f x) (g x)) : ARel ρ (xs.map f) (xs.map g) :=
  ⟨by simp, fun i h1 h2 => by simp only [Array.getElem_map]; exact h _ (by simp)⟩

/-! addresses of parts -/
def fieldAddrC (P : Program) (st : TypeId) (v : Value) (f : Nat) : Option Value :=
  match v with
  | .pointer (some a) => match P.underlying st with
    | some (.struct fields) => match fields[f]? with
      | some fd => match P.info? fd.type with
        | some i => if i.size = 0 then none else some (.pointer (some (a.add fd.offset)))
        | none => none
      | none => none
    | _ => none
  | _ => none
theorem fieldAddr_ok (P : Program) (ev : Operand → Value) {o : Oper} {st : TypeId} {x : Operand} {f : Nat} (s : St) {v : Value} (ho : o.op = .fieldAddr st x f) (h : fieldAddrC P st (ev x) f = some v) : OpOk P ev o s s (.val v) := by
  unfold fieldAddrC at h
  split at h
  · rename_i a hx
    split at h
    · rename_i fields hd
      split at h
      · rename_i fd hf
        split at h
        · rename_i i hi
          split at h
          · cases h
          · rename_i hsz
            injection h with h
            subst h
            refine Simu.still fun ρ w ev' he => ?_
            have h1 := he x (by simp [ho, Op.operands])
            rw [hx] at h1
            obtain ⟨a', e, hr⟩ := h1.ptr_inv
            refine ⟨_, ?_, .val _ _ (hr.add fd.offset).ptr⟩
            simp [execOp, ho, Instr.fieldAt, e, Instr.sureAddr, fieldPlace, run_underlying_of hd, hf, run_sizeOf_of hi, hsz]
        · cases h
      · cases h
    · cases h
  · cases h

def indexAddrC (P : Program) (t : TypeId) (x i : Value) : Option Value :=
  match i with
  | .int _ n => match P.underlying t, x with
    | some (.array len elem), .pointer (some a) => match P.info? elem with
      | some ie => if 0 ≤ n ∧ n < len then some (.pointer (some (a.add (n.toNat * ie.size)))) else none
      | none => none
    | some (.slice elem), .slice (some a) len _ => match P.info? elem with
      | some ie => if 0 ≤ n ∧ n < len then some (.pointer (some (a.add (n.toNat * ie.size)))) else none
      | none => none
    | _, _ => none
  | _ => none
theorem indexAddr_ok (P : Program) (ev : Operand → Value) {o : Oper} {t : TypeId} {x i : Operand} (s : St) {v : Value} (ho : o.op = .indexAddr t x i) (h : indexAddrC P t (ev x) (ev i) = some v) : OpOk P ev o s s (.val v) := by
  unfold indexAddrC at h
  split at h
  · rename_i k n hn
    split at h
    · rename_i len elem a hd hx
      split at h
      · rename_i ie hi
        split at h
        · rename_i hlt
          injection h with h
          subst h
          refine Simu.still fun ρ w ev' he => ?_
          have h1 := he x (by simp [ho, Op.operands])
          have h2 := he i (by simp [ho, Op.operands])
          rw [hx] at h1
          rw [hn] at h2
          obtain ⟨a', e, hr⟩ := h1.ptr_inv
          have e2 := h2.int_inv
          refine ⟨_, ?_, .val _ _ (hr.add (n.toNat * ie.size)).ptr⟩
          simp [execOp, ho, Instr.indexAt, e, e2, asIntOf, Instr.sureAddr, run_underlying_of hd, run_sizeOf_of hi, hlt]
        · cases h
      · cases h
    · rename_i elem a len c hd hx
      split at h
      · rename_i ie hi
        split at h
        · rename_i hlt
          injection h with h
          subst h
          refine Simu.still fun ρ w ev' he => ?_
          have h1 := he x (by simp [ho, Op.operands])
          have h2 := he i (by simp [ho, Op.operands])
          rw [hx] at h1
          rw [hn] at h2
          obtain ⟨a', c', e, hr⟩ := h1.slice_inv
          have e2 := h2.int_inv
          refine ⟨_, ?_, .val _ _ (hr.add (n.toNat * ie.size)).ptr⟩
          simp [execOp, ho, Instr.indexAt, e, e2, asIntOf, Instr.sureAddr, run_underlying_of hd, run_sizeOf_of hi, hlt]
        · cases h
      · cases h
    · cases h
  · cases h

/-! calls of functions with a body -/
def NG (P : Program) : Prop := ∀ (f : Nat) (fn : Func), P.funcs[f]? = some fn → fn.body.isSome = true → (fn.name == "runtime.NumGoroutine") = false

theorem run_callFunc {P : Program} (hP : NG P) {f : Nat} {fn : Func} (hf : P.funcs[f]? = some fn) (hb : fn.body.isSome = true) (args : Array Value) (w : World) : (callFunc f args).run P w = .ok (.enter f args) w := by
  have h1 : ¬ fn.name = "runtime.NumGoroutine" := by simpa using hP f fn hf hb
  have h2 : ¬ fn.body = none := by intro e; rw [e] at hb; cases hb
  simp [callFunc, hf, h1, h2]

def callC (P : Program) (ev : Operand → Value) (c : Call) : Option NextC :=
  match c.callee with
  | .value fo => match ev fo with
    | .func (.func f) first cap => match P.funcs[f]? with
      | some fn => if fn.body.isSome then some (.enter f (first ++ c.args.map ev ++ cap)) else none
      | none => none
    | _ => none
  | _ => none
theorem call_ok (P : Program) (hP : NG P) (ev : Operand → Value) {o : Oper} {c : Call} (s : St) {n : NextC} (ho : o.op = .call c) (h : callC P ev c = some n) : OpOk P ev o s s n := by
  unfold callC at h
  split at h
  · rename_i fo hc
    split at h
    · rename_i f first cap hx
      split at h
      · rename_i fn hf
        split at h
        · rename_i hb
          injection h with h
          subst h
          refine Simu.still fun ρ w ev' he => ?_
          have h1 := he fo (by simp [ho, Op.operands, Call.operands, hc])
          rw [hx] at h1
          obtain ⟨x', y', e, hr1, hr2⟩ := h1.func_inv
          have hargs := ARel.map (ρ := ρ) c.args ev ev' fun z hz => he z (by simp [ho, Op.operands, Call.operands, hz])
          refine ⟨.enter f (x' ++ c.args.map ev' ++ y'), ?_, .enter _ _ _ ((hr1.append hargs).append hr2)⟩
          simp [execOp, ho, resolve, hc, e, Deferred.ofValue, invoke, run_callFunc hP hf hb]
        · cases h
      · cases h
    · cases h
  · cases h

/-! tuples -/
def extractC (v : Value) (i : Nat) : Option Value :=
  match v with
  | .tuple vs => vs[i]?
  | _ => none
theorem extract_ok (P : Program) (ev : Operand → Value) {o : Oper} {x : Operand} {i : Nat} (s : St) {v : Value} (ho : o.op = .extract x i) (h : extractC (ev x) i = some v) : OpOk P ev o s s (.val v) := by
  unfold extractC at h
  split at h
  · rename_i vs hx
    refine Simu.still fun ρ w ev' he => ?_
    have h1 := he x (by simp [ho, Op.operands])
    rw [hx] at h1
    obtain ⟨x', e, hr⟩ := h1.tuple_inv
    obtain ⟨v', e1, e2⟩ := hr.prel i v (by rw [Array.getElem?_toList]; exact h)
    refine ⟨.value v', ?_, .val _ _ e2⟩
    simp [execOp, ho, Instr.extract, e, e1]
  · cases h

/-! what is no nil pointer -/
def nilCheckC (v : Value) : Option Value :=
  match v with
  | .pointer (some a) => some (.pointer (some a))
  | .func (.func f) x y => some (.func (.func f) x y)
  | _ => none
theorem nilCheck_ok (P : Program) (ev : Operand → Value) {o : Oper} {x : Operand} (s : St) {v : Value} (ho : o.op = .nilCheck x) (h : nilCheckC (ev x) = some v) : OpOk P ev o s s (.val v) := by
  unfold nilCheckC at h
  split at h
  · rename_i a hx
    injection h with h
    subst h
    refine Simu.still fun ρ w ev' he => ?_
    have h1 := he x (by simp [ho, Op.operands])
    rw [hx] at h1
    obtain ⟨a', e, hr⟩ := h1.ptr_inv
    exact ⟨.value (.pointer (some a')), by simp [execOp, ho, e], .val _ _ hr.ptr⟩
  · rename_i f x0 y0 hx
    injection h with h
    subst h
    refine Simu.still fun ρ w ev' he => ?_
    have h1 := he x (by simp [ho, Op.operands])
    rw [hx] at h1
    obtain ⟨x', y', e, hr1, hr2⟩ := h1.func_inv
    exact ⟨.value (.func (.func f) x' y'), by simp [execOp, ho, e], .val _ _ (.func f _ _ _ _ hr1.1 hr1.2 hr2.1 hr2.2)⟩
  · cases h

/-! comparisons with nil -/
def nilEq (d : TypeDesc) (x y : Value) : Option Bool :=
  match d, x, y with
  | .slice _, .slice none _ _, .slice b _ _ => some b.isNone
  | .slice _, .slice (some _) _ _, .slice none _ _ => some false
  | .pointer _, .pointer none, .pointer b => some b.isNone
  | .pointer _, .pointer (some _), .pointer none => some false
  | .func _ _ _, .nilFunc, .func (.func _) _ _ => some false
  | .func _ _ _, .func (.func _) _ _, .nilFunc => some false
  | .interface _, .nilIface, .iface _ _ => some false
  | .interface _, .iface _ _, .nilIface => some false
  | _, _, _ => none
theorem nilEq_run (P : Program) {t : TypeId} {d : TypeDesc} (hd : P.underlying t = some d) {ρ : Map} {x y x' y' : Value} {b : Bool} (hx : VRel ρ x x') (hy : VRel ρ y y') (h : nilEq d x y = some b) (w : World) :
    (Op.equal t x' y').run P w = .ok b w ∧ (∀ op a c, (eqGuard op t a c x' y').run P w = .ok () w) := by
  unfold nilEq at h
  have hm : Op.maxDepth = 9999 + 1 := rfl
  refine ⟨?_, ?_⟩
  · unfold Op.equal
    rw [hm]
    unfold Op.equalIn
    rw [Sem.run_bind, run_underlying_of hd, Result.andThen_ok]
    split at h <;> first | (cases h; done) | (injection h with h; subst h; cases hx <;> cases hy <;> rfl)
  · intro op a c
    unfold eqGuard
    split at h <;> first | (cases h; done) | (injection h with h; subst h; cases hx <;> cases hy <;> (cases op <;> rfl))
end Go.Canon
/-
  More operations: nil, function values, interfaces, parts of structs, lengths, made slices, slices of slices.
-/
namespace Go.Canon
variable [Ghosts]

def binOpC (P : Program) (op : BinOp) (t : TypeId) (x y : Value) : Option Value :=
  match P.underlying t with
  | some d => match nilEq d x y with
    | some b => match op with
      | .eql => some (.bool b)
      | .neq => some (.bool !b)
      | _ => none
    | none => none
  | none => none
def plainV : Value → Bool
  | .int .. | .float .. | .complex .. | .string _ => true
  | _ => false
theorem binOp_eql (t : TypeId) (x y : Value) (h : plainV x = false) : binOp .eql t x y = (do pure (.bool (← Op.equal t x y))) := by
  cases x <;> first | (simp [plainV] at h; done) | (cases y <;> rfl)
theorem binOp_neq (t : TypeId) (x y : Value) (h : plainV x = false) : binOp .neq t x y = (do pure (.bool (!(← Op.equal t x y)))) := by
  cases x <;> first | (simp [plainV] at h; done) | (cases y <;> rfl)
theorem nilEq_kind {d : TypeDesc} {x y : Value} {b : Bool} (h : nilEq d x y = some b) {ρ : Map} {x' : Value} (hx : VRel ρ x x') : plainV x' = false := by
  unfold nilEq at h
  split at h <;> first | (cases h; done) | (cases hx <;> rfl)
theorem binOp_ok (P : Program) (ev : Operand → Value) {o : Oper} {op : BinOp} {t u : TypeId} {x y : Operand} (s : St) {v : Value} (ho : o.op = .binOp op t x y u) (h : binOpC P op t (ev x) (ev y) = some v) : OpOk P ev o s s (.val v) := by
  unfold binOpC at h
  split at h
  · rename_i d hd
    split at h
    · rename_i b hb
      refine Simu.still fun ρ w ev' he => ?_
      have h1 := he x (by simp [ho, Op.operands])
      have h2 := he y (by simp [ho, Op.operands])
      obtain ⟨r1, r2⟩ := nilEq_run P hd h1 h2 hb w
      have hk := nilEq_kind hb h1
      split at h
      · injection h with h
        subst h
        refine ⟨.value (.bool b), ?_, .val _ _ (.bool b)⟩
        simp only [execOp, ho]
        rw [Sem.run_bind, Sem.run_bind, r2, Result.andThen_ok, binOp_eql _ _ _ hk, Sem.run_bind, r1]
        rfl
      · injection h with h
        subst h
        refine ⟨.value (.bool !b), ?_, .val _ _ (.bool !b)⟩
        simp only [execOp, ho]
        rw [Sem.run_bind, Sem.run_bind, r2, Result.andThen_ok, binOp_neq _ _ _ hk, Sem.run_bind, r1]
        rfl
      · cases h
    · cases h
  · cases h

def makeFuncC (ev : Operand → Value) (fn : Fn) (first cap : Array Operand) : Option Value :=
  match fn with
  | .func f => some (.func (.func f) (first.map ev) (cap.map ev))
  | _ => none
theorem makeFunc_ok (P : Program) (ev : Operand → Value) {o : Oper} {fn : Fn} {first cap : Array Operand} (s : St) {v : Value} (ho : o.op = .makeFunc fn first cap) (h : makeFuncC ev fn first cap = some v) : OpOk P ev o s s (.val v) := by
  unfold makeFuncC at h
  split at h
  · rename_i f
    injection h with h
    subst h
    refine Simu.still fun ρ w ev' he => ⟨.value (.func (.func f) (first.map ev') (cap.map ev')), by simp [execOp, ho, Instr.makeFunc], ?_⟩
    have a1 := ARel.map (ρ := ρ) first ev ev' fun z hz => he z (by simp [ho, Op.operands, hz])
    have a2 := ARel.map (ρ := ρ) cap ev ev' fun z hz => he z (by simp [ho, Op.operands, hz])
    exact .val _ _ (.func f _ _ _ _ a1.1 a1.2 a2.1 a2.2)
  · cases h

def notIface : TypeDesc → Bool
  | .interface _ => false
  | _ => true
def makeIfaceC (P : Program) (t : TypeId) (v : Value) : Option Value :=
  match P.underlying t with
  | some d => if notIface d then some (.iface t v) else none
  | none => none
theorem makeIface_ok (P : Program) (ev : Operand → Value) {o : Oper} {t : TypeId} {x : Operand} (s : St) {v : Value} (ho : o.op = .makeInterface t x) (h : makeIfaceC P t (ev x) = some v) : OpOk P ev o s s (.val v) := by
  unfold makeIfaceC at h
  split at h
  · rename_i d hd
    split at h
    · rename_i hn
      injection h with h
      subst h
      refine Simu.still fun ρ w ev' he => ⟨.value (.iface t (ev' x)), ?_, .val _ _ (.iface _ _ _ (he x (by simp [ho, Op.operands])))⟩
      simp only [execOp, ho, Instr.makeInterface]
      rw [Sem.run_bind, Sem.run_bind, run_underlying_of hd, Result.andThen_ok]
      cases d <;> first | rfl | (simp [notIface] at hn)
    · cases h
  · cases h

/-! parts of structs and arrays that are values -/
def partC (P : Program) (t : TypeId) (cs : Array Value) (off : Nat) : Option Value :=
  match P.underlying t with
  | some d => if aggD d then match P.info? t with
      | some i => some (.agg (cs.extract off (off + i.size)))
      | none => none
    else cs[off]?
  | none => none
theorem ARel.extract {ρ : Map} {x x' : Array Value} (h : ARel ρ x x') (a b : Nat) : ARel ρ (x.extract a b) (x'.extract a b) := by
  refine ⟨by simp [h.1], fun i h1 h2 => ?_⟩
  simp only [Array.getElem_extract]
  exact h.2 _ _ _
theorem partC_ok {P : Program} {t : TypeId} {cs cs' : Array Value} {off : Nat} {v : Value} {ρ : Map} (h : partC P t cs off = some v) (hr : ARel ρ cs cs') (w : World) : ∃ v', (part t cs' off).run P w = .ok v' w ∧ VRel ρ v v' := by
  unfold partC at h
  unfold part
  split at h
  · rename_i d hd
    split at h
    · rename_i ha
      split at h
      · rename_i i hi
        injection h with h
        subst h
        refine ⟨.agg (cs'.extract off (off + i.size)), ?_, .agg_of (hr.extract _ _)⟩
        simp [run_isAgg_of hd, ha, run_sizeOf_of hi]
      · cases h
    · rename_i ha
      obtain ⟨v', e1, e2⟩ := hr.prel off v (by rw [Array.getElem?_toList]; exact h)
      refine ⟨v', ?_, e2⟩
      simp [run_isAgg_of hd, ha, e1]
  · cases h
def fieldC (P : Program) (t : TypeId) (v : Value) (f : Nat) : Option Value :=
  match v with
  | .agg cs => match P.underlying t with
    | some (.struct fields) => match fields[f]? with
      | some fd => partC P fd.type cs fd.offset
      | none => none
    | _ => none
  | _ => none
theorem field_ok (P : Program) (ev : Operand → Value) {o : Oper} {t : TypeId} {x : Operand} {f : Nat} (s : St) {v : Value} (ho : o.op = .field t x f) (h : fieldC P t (ev x) f = some v) : OpOk P ev o s s (.val v) := by
  unfold fieldC at h
  split at h
  · rename_i cs hx
    split at h
    · rename_i fields hd
      split at h
      · rename_i fd hf
        refine Simu.still fun ρ w ev' he => ?_
        have h1 := he x (by simp [ho, Op.operands])
        rw [hx] at h1
        obtain ⟨x', e, hr⟩ := h1.agg_inv
        obtain ⟨v', e1, e2⟩ := partC_ok h hr w
        refine ⟨.value v', ?_, .val _ _ e2⟩
        simp [execOp, ho, Instr.field, run_underlying_of hd, hf, e, asAgg, e1]
      · cases h
    · cases h
  · cases h

def pickC (c a b : Value) : Option Value :=
  match c with
  | .bool true => some a
  | .bool false => some b
  | _ => none
theorem pick_ok (P : Program) (ev : Operand → Value) {o : Oper} {c a b : Operand} (s : St) {v : Value} (ho : o.op = .pick c a b) (h : pickC (ev c) (ev a) (ev b) = some v) : OpOk P ev o s s (.val v) := by
  unfold pickC at h
  split at h
  · rename_i hx
    injection h with h
    subst h
    refine Simu.still fun ρ w ev' he => ?_
    have h1 := he c (by simp [ho, Op.operands])
    rw [hx] at h1
    exact ⟨.value (ev' a), by simp [execOp, ho, h1.bool_inv, asBool], .val _ _ (he a (by simp [ho, Op.operands]))⟩
  · rename_i hx
    injection h with h
    subst h
    refine Simu.still fun ρ w ev' he => ?_
    have h1 := he c (by simp [ho, Op.operands])
    rw [hx] at h1
    exact ⟨.value (ev' b), by simp [execOp, ho, h1.bool_inv, asBool], .val _ _ (he b (by simp [ho, Op.operands]))⟩
  · cases h

/-! the length of a slice -/
def lenC (P : Program) (ev : Operand → Value) (c : Call) : Option Value :=
  match c.callee with
  | .builtin .len => match c.argTypes[0]?, c.args[0]? with
    | some t, some x => match P.underlying t, ev x with
      | some (.slice _), .slice _ n _ => some (.int .i64 n)
      | _, _ => none
    | _, _ => none
  | _ => none
theorem VRel.slice_len {ρ : Map} {b : Option Addr} {n c : Nat} {v : Value} (h : VRel ρ (.slice b n c) v) : ∃ b' c', v = .slice b' n c' := by
  cases h <;> exact ⟨_, _, rfl⟩
theorem len_ok (P : Program) (ev : Operand → Value) {o : Oper} {c : Call} (s : St) {v : Value} (ho : o.op = .call c) (h : lenC P ev c = some v) : OpOk P ev o s s (.val v) := by
  unfold lenC at h
  split at h
  · rename_i hc
    split at h
    · rename_i t x ht hx
      split at h
      · rename_i e b n k hd hv
        injection h with h
        subst h
        refine Simu.still fun ρ w ev' he => ?_
        have hm : x ∈ c.args := Array.mem_of_getElem? hx
        have h1 := he x (by simp [ho, Op.operands, Call.operands, hm])
        rw [hv] at h1
        obtain ⟨b', k', e1⟩ := h1.slice_len
        refine ⟨.value (.int .i64 n), ?_, .val _ _ (.int _ _)⟩
        simp [execOp, ho, resolve, hc, invoke, builtin, Builtin.len_, ht, hx, run_underlying_of hd, e1, goInt]
      · cases h
    · cases h
  · cases h

/-! made slices -/
def intOfV : Value → Option Int
  | .int _ n => some n
  | _ => none
def rowCells (n : Nat) (z : Value) : Array Value := (Array.range n).map ((if n = 0 then #[] else z.cells)[· % (if n = 0 then #[] else z.cells).size]!)
def makeSliceC (P : Program) (t : TypeId) (len cap : Value) (s : St) : Option (NextC × St) :=
  match P.underlying t, intOfV len, intOfV cap with
  | some (.slice elem), some len, some cap => match P.info? elem with
    | some ei => match ei.zero with
      | some z =>
        let l := IntKind.i64.wrap len
        let c := IntKind.i64.wrap cap
        if c < 0 || (ei.bytes : Int) * c > 2 ^ 48 || l < 0 || l > c then none else
        let cells : Array Value := rowCells (c.toNat * ei.size) z
        if cells.toList.all (ground 9) then match newC s cells.toList elem with
          | some (a, s1) => some (.val (.slice (some a) l.toNat c.toNat), s1)
          | none => none
        else none
      | none => none
    | none => none
  | _, _, _ => none
theorem intOfV_inv {ρ : Map} {v v' : Value} {n : Int} (h : intOfV v = some n) (hr : VRel ρ v v') (P : Program) (w : World) : (asInt v').run P w = .ok n w := by
  cases hr <;> first | (cases h; done) | (simp only [intOfV] at h; injection h with h; subst h; rfl)
theorem ARel.ground {ρ : Map} {x : Array Value} (h : x.toList.all (ground 9) = true) : ARel ρ x x := ⟨rfl, fun i h1 _ => ground_rel 9 _ (ground_all h i h1) ρ⟩
theorem makeSlice_ok (P : Program) (ev : Operand → Value) {o : Oper} {t : TypeId} {x y : Operand} {s s1 : St} {n : NextC} (ho : o.op = .makeSlice t x y) (h : makeSliceC P t (ev x) (ev y) s = some (n, s1)) : OpOk P ev o s s1 n := by
  unfold makeSliceC at h
  split at h
  · rename_i elem len cap hd hl hc
    split at h
    · rename_i ei hi
      split at h
      · rename_i z hz
        dsimp only at h
        split at h
        · cases h
        · rename_i hno
          split at h
          · rename_i hg
            split at h
            · rename_i a s2 hn
              injection h with h; injection h with h1 h2
              subst h1 h2
              refine (newC_ok P hn).use (fun _ => _) (fun _ a' => .value (.slice (some a') (IntKind.i64.wrap len).toNat (IntKind.i64.wrap cap).toNat)) (fun ρ ev' _ => ARel.ground hg) (fun ρ w ev' he => ?_) (fun ρ ρ1 ev' r _ _ hp => .val _ _ ?_)
              · have e1 := intOfV_inv hl (he x (by simp [ho, Op.operands])) P w
                have e2 := intOfV_inv hc (he y (by simp [ho, Op.operands])) P w
                simp only [Bool.or_eq_true, decide_eq_true_eq, not_or] at hno
                obtain ⟨⟨⟨n1, n2⟩, n3⟩, n4⟩ := hno
                have n5 : (decide (IntKind.i64.wrap cap < 0) || decide ((ei.bytes : Int) * IntKind.i64.wrap cap > 2 ^ 48) || decide (IntKind.i64.wrap len < 0) || decide (IntKind.i64.wrap len > IntKind.i64.wrap cap)) = false := by rw [decide_eq_false n1, decide_eq_false n2, decide_eq_false n3, decide_eq_false n4]; rfl
                simp only [execOp, ho, Instr.makeSlice]
                rw [Sem.run_bind, Sem.run_bind, run_underlying_of hd, Result.andThen_ok]
                simp only [Sem.run_bind, e1, e2, Result.andThen_ok, run_typeInfo_of hi, n5, Bool.false_eq_true, if_false, run_askRoom, run_sizeOf_of hi]
                unfold rowCells
                by_cases h0 : (IntKind.i64.wrap cap).toNat * ei.size = 0
                · simp only [h0, if_true, Sem.run_bind, Sem.run_pure, Result.andThen_ok, andThen_assoc]
                · simp only [h0, if_false, Sem.run_bind, run_zeroValue_of hi hz, Sem.run_pure, Result.andThen_ok, andThen_assoc]
              · have e : r = ⟨r.block, a.off, a.spot⟩ := by
                  obtain ⟨b, o, sp⟩ := r
                  have q := hp.2
                  simp only at q
                  obtain ⟨q1, q2, q3, q4⟩ := q
                  subst q3 q4
                  rw [q1, q2]
                rw [e]
                exact .slHard a r.block _ _ hp.1
            · cases h
          · cases h
      · cases h
    · cases h
  · cases h

/-! slices of slices -/
def boundV : Option Value → Option (Option Int)
  | none => some none
  | some (.int _ n) => some (some n)
  | _ => none
def softOf (s : St) (b : Nat) : Option Nat :=
  if b < s.n then match s.t.get b with
    | some (.cells _ _ sf) => some sf
    | _ => none
  else none
def sliceC (P : Program) (t : TypeId) (x : Value) (lo hi mx : Option Value) (s : St) : Option (NextC × St) :=
  match P.underlying t, x, boundV lo, boundV hi, mx with
  | some (.slice elem), .slice (some a) len cap, some lo, some hi, none => match P.info? elem, softOf s a.block with
    | some ei, some sf =>
      if 0 ≤ lo.getD 0 && lo.getD 0 ≤ hi.getD len && hi.getD len ≤ cap && 0 ≤ hi.getD len && (sf == 0 || sf == ei.size + 1) then
        if (lo.getD 0).toNat = cap && (lo.getD 0).toNat * ei.size != 0 then none
        else some (.val (.slice (some (a.add ((lo.getD 0).toNat * ei.size))) ((hi.getD len).toNat - (lo.getD 0).toNat) (cap - (lo.getD 0).toNat)), s.rd a.block)
      else none
    | _, _ => none
  | _, _, _, _, _ => none
theorem softOf_at {s : St} {b sf : Nat} (h : softOf s b = some sf) {ρ : Map} {w : World} (hat : b < s.n → At ρ w b (s.t.get b)) :
    (sf = 0 ∧ ∃ b', ρ b = .hard b') ∨ ∃ b' m es, ρ b = .soft b' m es ∧ sf = es + 1 := by
  unfold softOf at h
  split at h
  · rename_i hlt
    have hA := hat hlt
    split at h
    · rename_i c e sf' hg
      injection h with h
      subst h
      rw [hg] at hA
      cases hA with
      | hard _ _ b' c' h1 h2 h3 h4 => exact .inl ⟨rfl, b', h1⟩
      | soft _ _ es b' c' h1 h2 h4 => exact .inr ⟨b', _, es, h1, rfl⟩
    · cases h
  · cases h
theorem boundV_inv {ρ : Map} {v v' : Option Value} {b : Option Int} (h : boundV v = some b) (hr : ∀ x, v = some x → ∃ x', v' = some x' ∧ VRel ρ x x') (hn : v = none → v' = none) : (b = none ∧ v' = none) ∨ ∃ k i, b = some i ∧ v' = some (.int k i) := by
  unfold boundV at h
  split at h
  · injection h with h; subst h; exact .inl ⟨rfl, hn rfl⟩
  · rename_i k n
    injection h with h; subst h
    obtain ⟨x', e, hx⟩ := hr _ rfl
    exact .inr ⟨k, n, rfl, by rw [e, hx.int_inv]⟩
  · cases h
theorem run_bound (P : Program) (w : World) (k : IntKind) (i : Int) (y : Nat) (code : BoundsCode) (h0 : 0 ≤ i) (h1 : i ≤ y) : (Instr.sliceBound (.int k i) y code).run P w = .ok i.toNat w := by
  simp [Instr.sliceBound, asIntOf, h0, h1]
theorem slice_ok (P : Program) (ev : Operand → Value) {o : Oper} {t : TypeId} {x : Operand} {lo hi mx : Option Operand} {s s1 : St} {n : NextC} (ho : o.op = .slice t x lo hi mx) (h : sliceC P t (ev x) (lo.map ev) (hi.map ev) (mx.map ev) s = some (n, s1)) : OpOk P ev o s s1 n := by
  unfold sliceC at h
  split at h
  · rename_i elem a len cap lo' hi' hd hx hlo hhi hmx
    split at h
    · rename_i ei sf hei hsf
      split at h
      · rename_i hb
        simp only [Bool.and_eq_true, Bool.or_eq_true, beq_iff_eq, decide_eq_true_eq] at hb
        obtain ⟨⟨⟨⟨b1, b2⟩, b3⟩, b4⟩, b5⟩ := hb
        split at h
        · cases h
        · rename_i hne
          injection h with h; injection h with h h'
          subst h h'
          refine moves_rd s a.block fun ρ w ev' he hat _ => ?_
          have hsoft := softOf_at hsf hat
          have h1 := he x (by simp [ho, Op.operands])
          rw [hx] at h1
          have hm : mx = none := by cases mx with
            | none => rfl
            | some _ => simp at hmx
          subst hm
          have opt : ∀ (z : Option Operand), (∀ y, z = some y → y ∈ o.op.operands) → ∀ q, z.map ev = some q → ∃ q', z.map ev' = some q' ∧ VRel ρ q q' := by
            intro z hz q hq
            cases z with
            | none => cases hq
            | some y =>
              simp only [Option.map_some, Option.some.injEq] at hq
              subst hq
              exact ⟨ev' y, rfl, he y (hz y rfl)⟩
          have non : ∀ (z : Option Operand), z.map ev = none → z.map ev' = none := by
            intro z hz
            cases z with
            | none => rfl
            | some y => cases hz
          have k1 := boundV_inv hlo (opt lo (fun y hy => by simp [ho, Op.operands, hy])) (non lo)
          have k2 := boundV_inv hhi (opt hi (fun y hy => by simp [ho, Op.operands, hy])) (non hi)
          -- the model's bounds, at whatever capacity is not less
          have hbounds : ∀ c' : Nat, cap ≤ c' → (Instr.sliceBounds true len c' (lo.map ev') (hi.map ev') (Option.map ev' none)).run P w = .ok ((lo'.getD 0).toNat, (hi'.getD len).toNat, c') w := by
            intro c' hc
            unfold Instr.sliceBounds
            simp only [Option.map_none, Sem.run_bind, Sem.run_pure, Result.andThen_ok, Option.isSome_none, Bool.false_eq_true, if_false, if_true]
            rcases k2 with ⟨e1, e2⟩ | ⟨kk, i, e1, e2⟩
            · subst e1
              rw [e2]
              simp only [Option.getD_none] at b2 b3 b4 ⊢
              try simp only [Sem.run_bind, Sem.run_pure, Result.andThen_ok]
              rcases k1 with ⟨f1, f2⟩ | ⟨kk, j, f1, f2⟩
              · subst f1; rw [f2]; simp
              · subst f1
                rw [f2]
                simp only [Option.getD_some] at b1 b2 ⊢
                simp only [Sem.run_bind, run_bound P w kk j len _ b1 b2, Result.andThen_ok]
                simp
            · subst e1
              rw [e2]
              simp only [Option.getD_some] at b2 b3 b4 ⊢
              have hi2 := run_bound P w kk i c' .sliceAcap b4 (by omega)
              simp only [Sem.run_bind, hi2, Result.andThen_ok]
              rcases k1 with ⟨f1, f2⟩ | ⟨kk2, j, f1, f2⟩
              · subst f1; rw [f2]; simp
              · subst f1
                rw [f2]
                simp only [Option.getD_some] at b1 b2 ⊢
                simp only [Sem.run_bind, run_bound P w kk2 j i.toNat _ b1 (by omega), Result.andThen_ok]
                simp
          have hlh : (lo'.getD 0).toNat ≤ (hi'.getD len).toNat := by omega
          have hhc : (hi'.getD len).toNat ≤ cap := by omega
          generalize (lo'.getD 0).toNat = l at *
          generalize (hi'.getD len).toNat = r at *
          have hrun : ∀ a' c', ev' x = .slice (some a') len c' → cap ≤ c' → (execOp ev' o).run P w = .ok (.value (.slice (some (if c' = l then a' else a'.add (l * ei.size))) (r - l) (c' - l))) w := by
            intro a' c' e hc
            simp only [execOp, ho, Instr.sliceAt]
            rw [Sem.run_bind, Sem.run_bind, run_underlying_of hd, Result.andThen_ok]
            simp only [Instr.slice]
            rw [Sem.run_bind, run_underlying_of hd, Result.andThen_ok, e]
            simp only [Sem.run_bind, hbounds c' hc, Result.andThen_ok, run_sizeOf_of hei, Sem.run_pure]
            split <;> rfl
          have hadd : ∀ (c' : Nat) (a' : Addr), cap ≤ c' → (if c' = l then a' else a'.add (l * ei.size)) = a'.add (l * ei.size) := by
            intro c' a' hc
            split
            · rename_i e
              have hl : l = cap := by omega
              have : l * ei.size = 0 := by
                apply Classical.byContradiction
                intro h0
                exact hne (by simp [hl]; rw [← hl]; exact fun q => h0 q)
              rw [this]; simp [Addr.add]
            · rfl
          have off : ∀ (q : Addr), (q.add (l * ei.size)).off = q.off + l * ei.size ∧ (q.add (l * ei.size)).block = q.block := by
            intro q
            unfold Addr.add
            split
            · rename_i e; exact ⟨by rw [e]; rfl, rfl⟩
            · exact ⟨rfl, rfl⟩
          generalize hq : ev' x = q at h1 hrun
          cases h1 with
          | slHard _ b' _ _ e1 =>
            refine ⟨_, hrun _ cap rfl (Nat.le_refl _), .val _ _ ?_⟩
            rw [hadd _ _ (Nat.le_refl _)]
            have hA : AdR ρ a ⟨b', a.off, a.spot⟩ := .inl ⟨by rw [e1]; rfl, rfl, rfl⟩
            have hB := hA.add (l * ei.size)
            have e2 : ρ (a.add (l * ei.size)).block = .hard b' := by rw [(off a).2]; exact e1
            rcases hB with ⟨h1, h2, h3⟩ | h1
            · generalize (⟨b', a.off, a.spot⟩ : Addr).add (l * ei.size) = z at h1 h2 h3
              obtain ⟨zb, zo, zs⟩ := z
              simp only at h1 h2 h3
              rw [e2] at h1
              injection h1 with h1
              subst h1 h2 h3
              exact .slHard _ b' _ _ e2
            · rw [e2] at h1; cases h1
          | slSoft _ b' m es _ _ c' e1 e2 e3 =>
            refine ⟨_, hrun _ c' rfl e2, .val _ _ ?_⟩
            rw [hadd _ _ e2]
            have hA : AdR ρ a ⟨b', a.off, a.spot⟩ := .inl ⟨by rw [e1]; rfl, rfl, rfl⟩
            have hB := hA.add (l * ei.size)
            have e4 : ρ (a.add (l * ei.size)).block = .soft b' m es := by rw [(off a).2]; exact e1
            have hes : es = ei.size := by
              rcases hsoft with ⟨_, b2', q⟩ | ⟨b2', m2, es2, q, q2⟩
              · rw [e1] at q; cases q
              · rw [e1] at q; injection q with q1 q2' q3; rcases b5 with b5 | b5 <;> omega
            have hval : (a.add (l * ei.size)).off + (c' - l) * es ≤ m := by
              rw [(off a).1, hes]
              rw [hes] at e3
              have : l * ei.size + (c' - l) * ei.size = c' * ei.size := by rw [← Nat.add_mul]; congr 1; omega
              omega
            rcases hB with ⟨h1, h2, h3⟩ | h1
            · generalize (⟨b', a.off, a.spot⟩ : Addr).add (l * ei.size) = z at h1 h2 h3
              obtain ⟨zb, zo, zs⟩ := z
              simp only at h1 h2 h3
              rw [e4] at h1
              injection h1 with h1
              subst h1 h2 h3
              exact .slSoft _ b' m es _ _ _ e4 (by omega) hval
            · rw [e4] at h1; cases h1
          | slDead _ a' _ _ c' e1 =>
            rcases hsoft with ⟨_, b2', q⟩ | ⟨b2', m2, es2, q, q2⟩ <;> (rw [e1] at q; cases q)
      · cases h
    · cases h
  · cases h
end Go.Canon
/-
  More operations: structs and slices that are built, copy, bytes to a string.
-/
namespace Go.Canon
variable [Ghosts]

theorem ARel.setIfInBounds {ρ : Map} {x x' : Array Value} (h : ARel ρ x x') (i : Nat) {v v' : Value} (hv : VRel ρ v v') : ARel ρ (x.setIfInBounds i v) (x'.setIfInBounds i v') := by
  refine ⟨by simp [h.1], fun j h1 h2 => ?_⟩
  rw [Array.getElem_setIfInBounds (by simpa using h1), Array.getElem_setIfInBounds (by simpa using h2)]
  split
  · exact hv
  · exact h.2 j _ _
theorem lay_rel {ρ : Map} (off : Nat) : ∀ (l l' : List Value) (k : Nat) (x x' : Array Value), LRel ρ l l' → ARel ρ x x' →
    ARel ρ ((l.zipIdx k).foldl (fun cs (c, j) => cs.setIfInBounds (off + j) c) x) ((l'.zipIdx k).foldl (fun cs (c, j) => cs.setIfInBounds (off + j) c) x')
  | [], [], _, _, _, _, hx => hx
  | v :: l, v' :: l', k, x, x', h, hx => by
    simp only [List.zipIdx_cons, List.foldl_cons]
    exact lay_rel off l l' (k + 1) _ _ h.2 (hx.setIfInBounds _ h.1)
theorem lay_array {ρ : Map} (off : Nat) {y y' x x' : Array Value} (h : ARel ρ y y') (hx : ARel ρ x x') :
    ARel ρ (y.zipIdx.foldl (fun cs (c, j) => cs.setIfInBounds (off + j) c) x) (y'.zipIdx.foldl (fun cs (c, j) => cs.setIfInBounds (off + j) c) x') := by
  rw [← Array.foldl_toList, ← Array.foldl_toList, Array.toList_zipIdx, Array.toList_zipIdx]
  exact lay_rel off _ _ 0 _ _ h.lrel hx

/-- numbered values, value by value -/
def QRel (ρ : Map) : List (Nat × Value) → List (Nat × Value) → Prop
  | [], [] => True
  | v :: vs, v' :: vs' => v.1 = v'.1 ∧ VRel ρ v.2 v'.2 ∧ QRel ρ vs vs'
  | _, _ => False
theorem fill_rel {ρ : Map} (place : Nat → Option (Nat × Nat)) : ∀ (l l' : List (Nat × Value)) (x x' r : Array Value), QRel ρ l l' → ARel ρ x x' → Instr.fill place x l = some r → ∃ r', Instr.fill place x' l' = some r' ∧ ARel ρ r r'
  | [], [], x, x', r, _, hx, h => by
    simp only [Instr.fill] at h ⊢
    injection h with h
    subst h
    exact ⟨x', rfl, hx⟩
  | (i, v) :: l, (i', v') :: l', x, x', r, hq, hx, h => by
    obtain ⟨e, hv, hq⟩ := hq
    simp only at e hv
    subst e
    simp only [Instr.fill] at h ⊢
    split at h
    · cases h
    · rename_i off size hp
      have hc := hv.cells
      rw [← hc.1, ← hx.1]
      split at h
      · cases h
      · rename_i hn
        rw [if_neg hn]
        exact fill_rel place l l' _ _ r hq (lay_array off hc hx) h
theorem qrel_map {ρ : Map} (ev ev' : Operand → Value) : ∀ (l : List (Nat × Operand)), (∀ p ∈ l, VRel ρ (ev p.2) (ev' p.2)) → QRel ρ (l.map fun p => (p.1, ev p.2)) (l.map fun p => (p.1, ev' p.2))
  | [], _ => trivial
  | p :: l, h => ⟨rfl, h p (by simp), qrel_map ev ev' l fun q hq => h q (by simp [hq])⟩

def buildC (P : Program) (t : TypeId) (parts : Array (Nat × Value)) : Option Value :=
  match P.info? t with
  | some i => match i.zero with
    | some z => if ground 9 z then match P.underlying t with
        | some (.struct fields) => match pureS P (fields.mapM fun f => do pure (f.offset, ← sizeOf f.type)) with
          | some places => (Instr.fill (places[·]?) z.cells parts.toList).map .agg
          | none => none
        | some (.array _ elem) => match P.info? elem with
          | some ie => (Instr.fill (fun i => some (i * ie.size, ie.size)) z.cells parts.toList).map .agg
          | none => none
        | _ => none
      else none
    | none => none
  | none => none
theorem parts_rel {ρ : Map} {ev ev' : Operand → Value} (parts : Array (Nat × Operand)) (h : ∀ p ∈ parts, VRel ρ (ev p.2) (ev' p.2)) :
    QRel ρ (parts.map fun p => (p.1, ev p.2)).toList (parts.map fun p => (p.1, ev' p.2)).toList := by
  simp only [Array.toList_map]
  exact qrel_map ev ev' _ fun p hp => h p (by simpa using hp)
theorem build_ok (P : Program) (ev : Operand → Value) {o : Oper} {t : TypeId} {parts : Array (Nat × Operand)} (s : St) {v : Value} (ho : o.op = .build t parts) (h : buildC P t (parts.map fun p => (p.1, ev p.2)) = some v) : OpOk P ev o s s (.val v) := by
  have hops : ∀ {ρ ev'}, EvR ρ ev o.op ev' → QRel ρ (parts.map fun p => (p.1, ev p.2)).toList (parts.map fun p => (p.1, ev' p.2)).toList := fun he =>
    parts_rel parts fun p hp => he p.2 (by
      rw [ho]
      simp only [Op.operands]
      simp
      exact ⟨p.1, hp⟩)
  unfold buildC at h
  split at h
  · rename_i i hi
    split at h
    · rename_i z hz
      split at h
      · rename_i hg
        split at h
        · rename_i fields hd
          split at h
          · rename_i places hpl
            obtain ⟨r, hr, h⟩ := Option.map_eq_some_iff.1 h
            subst h
            refine Simu.still fun ρ w ev' he => ?_
            obtain ⟨r', hr', hrel⟩ := fill_rel _ _ _ _ _ _ (hops he) (ground_rel 9 z hg ρ).cells hr
            refine ⟨.value (.agg r'), ?_, .val _ _ (.agg_of hrel)⟩
            simp only [execOp, ho, Instr.build]
            simp only [Sem.run_bind, run_zeroValue_of hi hz, Result.andThen_ok, run_underlying_of hd, pureS_run P w _ _ hpl, hr', Sem.run_pure]
          · cases h
        · rename_i n elem hd
          split at h
          · rename_i ie hie
            obtain ⟨r, hr, h⟩ := Option.map_eq_some_iff.1 h
            subst h
            refine Simu.still fun ρ w ev' he => ?_
            obtain ⟨r', hr', hrel⟩ := fill_rel _ _ _ _ _ _ (hops he) (ground_rel 9 z hg ρ).cells hr
            refine ⟨.value (.agg r'), ?_, .val _ _ (.agg_of hrel)⟩
            simp only [execOp, ho, Instr.build]
            simp only [Sem.run_bind, run_zeroValue_of hi hz, Result.andThen_ok, run_underlying_of hd, run_sizeOf_of hie, hr', Sem.run_pure]
          · cases h
        · cases h
      · cases h
    · cases h
  · cases h

def buildSliceC (P : Program) (t : TypeId) (len : Nat) (parts : Array (Nat × Value)) (s : St) : Option (NextC × St) :=
  match P.underlying t with
  | some (.slice elem) => match P.info? elem with
    | some ie => match ie.zero with
      | some z => if len * ie.size > 2 ^ 24 then none else
        if (rowCells (len * ie.size) z).toList.all (ground 9) then
          match Instr.fill (fun i => some (i * ie.size, ie.size)) (rowCells (len * ie.size) z) parts.toList with
          | some cells => match newC s cells.toList elem with
            | some (a, s1) => some (.val (.slice (some a) len len), s1)
            | none => none
          | none => none
        else none
      | none => none
    | none => none
  | _ => none
theorem hard_slice {ρ : Map} {a r : Addr} {n c : Nat} (hp : ρ a.block = .hard r.block ∧ a.off = 0 ∧ a.spot = none ∧ r.off = 0 ∧ r.spot = none) : VRel ρ (.slice (some a) n c) (.slice (some r) n c) := by
  have e : r = ⟨r.block, a.off, a.spot⟩ := by
    obtain ⟨b, o, sp⟩ := r
    have q := hp.2
    simp only at q
    obtain ⟨q1, q2, q3, q4⟩ := q
    subst q3 q4
    rw [q1, q2]
  rw [e]
  exact .slHard a r.block _ _ hp.1
theorem newC_fst {s s1 : St} {cs _ : List Value} {e : TypeId} {a : Addr} (h : newC s cs e = some (a, s1)) (P : Program) :
    Simu P s s1 (fun ρ x => ARel ρ ⟨cs⟩ x) (fun x => newRow e x) (fun ρ a' => ρ a.block = .hard a'.block ∧ a.off = 0 ∧ a.spot = none ∧ a'.off = 0 ∧ a'.spot = none) := newC_ok P h
theorem buildSlice_ok (P : Program) (ev : Operand → Value) {o : Oper} {t : TypeId} {len : Nat} {parts : Array (Nat × Operand)} {s s1 : St} {n : NextC} (ho : o.op = .buildSlice t len parts) (h : buildSliceC P t len (parts.map fun p => (p.1, ev p.2)) s = some (n, s1)) : OpOk P ev o s s1 n := by
  have hops : ∀ {ρ ev'}, EvR ρ ev o.op ev' → QRel ρ (parts.map fun p => (p.1, ev p.2)).toList (parts.map fun p => (p.1, ev' p.2)).toList := fun he =>
    parts_rel parts fun p hp => he p.2 (by
      rw [ho]
      simp only [Op.operands]
      simp
      exact ⟨p.1, hp⟩)
  unfold buildSliceC at h
  split at h
  · rename_i elem hd
    split at h
    · rename_i ie hie
      split at h
      · rename_i z hz
        split at h
        · cases h
        · rename_i hle
          split at h
          · rename_i hg
            split at h
            · rename_i cells hfill
              split at h
              · rename_i a s2 hn
                injection h with h; injection h with h1 h2
                subst h1 h2
                -- what the model's fill makes of the parts at hand
                let G : (Operand → Value) → Array Value := fun ev' => (Instr.fill (fun i => some (i * ie.size, ie.size)) (rowCells (len * ie.size) z) (parts.map fun p => (p.1, ev' p.2)).toList).getD #[]
                have hG : ∀ {ρ ev'}, EvR ρ ev o.op ev' → Instr.fill (fun i => some (i * ie.size, ie.size)) (rowCells (len * ie.size) z) (parts.map fun p => (p.1, ev' p.2)).toList = some (G ev') ∧ ARel ρ cells (G ev') := fun {ρ ev'} he => by
                  obtain ⟨r', hr', hrel⟩ := fill_rel _ _ _ _ _ _ (hops he) (ARel.ground hg) hfill
                  have : G ev' = r' := by simp only [G]; rw [hr']; rfl
                  rw [this]
                  exact ⟨hr', hrel⟩
                refine (newC_ok P hn).use G (fun _ a' => .value (.slice (some a') len len)) (fun ρ ev' he => (hG he).2) (fun ρ w ev' he => ?_) (fun ρ ρ1 ev' r _ _ hp => .val _ _ (hard_slice hp))
                have hf := (hG he).1
                simp only [execOp, ho, Instr.buildSlice]
                rw [Sem.run_bind, Sem.run_bind, run_underlying_of hd, Result.andThen_ok]
                simp only [Sem.run_bind, run_sizeOf_of hie, Result.andThen_ok, if_neg hle]
                unfold rowCells at hf
                by_cases h0 : len * ie.size = 0
                · simp only [h0, if_true, Sem.run_bind, Sem.run_pure, Result.andThen_ok] at hf ⊢
                  rw [hf]
                  simp only [Sem.run_bind, Sem.run_pure, andThen_assoc, Result.andThen_ok]
                · simp only [h0, if_false, Sem.run_bind, run_zeroValue_of hie hz, Sem.run_pure, Result.andThen_ok] at hf ⊢
                  rw [hf]
                  simp only [Sem.run_bind, Sem.run_pure, andThen_assoc, Result.andThen_ok]
              · cases h
            · cases h
          · cases h
      · cases h
    · cases h
  · cases h
end Go.Canon
/-
  Copy, bytes to a string, and what append needs: reads that leave the world as it is, blocks that are given up.
-/
namespace Go.Canon
variable [Ghosts]

theorem ldCs_shape {s s1 : St} {a : Addr} {k : Nat} {l : List Value} (h : ldCs s a k = some (l, s1)) : (s1 = s ∨ s1 = s.rd a.block) ∧ l.length = k := by
  unfold ldCs at h
  split at h
  · rename_i h0
    injection h with h; injection h with h1 h2; subst h1 h2 h0; exact ⟨.inl rfl, rfl⟩
  · split at h
    · cases h
    · split at h
      · split at h
        · split at h
          · injection h with h; injection h with h1 h2; subst h1 h2; exact ⟨.inr rfl, by simp; omega⟩
          · cases h
        · cases h
      · cases h

/-- a load leaves the world, and what is tied to what -/
theorem ldCs_read (P : Program) {s s1 : St} {a : Addr} {k : Nat} {l : List Value} (h : ldCs s a k = some (l, s1)) {F : Fp} (hF : Fp.Sub s1.fp F) {ρ : Map} {w : World} (hi : Inv F ρ s w) {a' : Addr} (ha : AdR ρ a a') :
    ∃ r, (∀ wd : World, wd.heap = w.heap → (loadCells a' k).run P wd = .ok r wd) ∧ ARel ρ ⟨l⟩ r := by
  unfold ldCs at h
  split at h
  · rename_i h0
    injection h with h; injection h with h1 h2
    subst h1 h2 h0
    exact ⟨#[], fun _ _ => rfl, rfl, fun i h1 _ => by simp at h1⟩
  · split at h
    · cases h
    · rename_i hsp
      split at h
      · rename_i hlt
        split at h
        · rename_i c hg
          split at h
          · rename_i hle
            injection h with h; injection h with h1 h2
            subst h1 h2
            have hA := hi.at_ a.block hlt (hF.1 _ (by simp [St.fp, Fp.testBit, St.rd, Nat.testBit_or]))
            obtain ⟨b', c', e, f, ht, hh, hp, hd⟩ := hA.row hg
            rcases ha with ⟨h1, h2, h3⟩ | h1
            · rw [ht] at h1
              injection h1 with h1
              have hlen := hp.len
              have hv : ((c'.toList.drop a.off).take k).length = k := by simp; omega
              refine ⟨((c'.toList.drop a.off).take k).toArray, ?_, ?_, ?_⟩
              · intro wd hwd
                have hh : wd.heap[b']? = some (.cells c' e f) := by rw [hwd]; exact hh
                have := run_loadCellsFrom P wd a' ((c'.toList.drop a.off).take k) 0 #[] (fun j v hj => by
                  obtain ⟨bb, oo, ss⟩ := a'
                  simp only at h1 h2 h3
                  subst h1 h2 h3
                  have ea : (⟨b', a.off, a.spot⟩ : Addr).add (0 + j) = ⟨b', a.off + j, none⟩ := by
                    unfold Addr.add
                    rw [hsp]
                    split
                    · rename_i e0
                      have : j = 0 := by omega
                      subst this; rfl
                    · rw [Nat.zero_add]
                  rw [ea, cell_at hh]
                  rw [List.getElem?_take] at hj
                  split at hj
                  · rw [List.getElem?_drop] at hj
                    simpa using hj
                  · cases hj)
                rw [hv] at this
                rw [Array.empty_append] at this
                exact this
              · simp; omega
              · intro i hi1 hi2
                simp at hi1
                obtain ⟨v', e1, e2⟩ := hp (a.off + i) c[a.off + i] (List.getElem?_eq_getElem (by omega))
                obtain ⟨q, e1⟩ := Array.getElem?_eq_some_iff.1 e1
                subst e1
                simpa using e2
            · exact absurd h1 hd
          · cases h
        · cases h
      · cases h

/-! the first cells of a slice or a string -/
def lenOfC : Value → Option Nat
  | .slice _ n _ => some n
  | .string s => some s.size
  | _ => none
def firstC (size n : Nat) (v : Value) (s : St) : Option (List Value × St) :=
  match v with
  | .slice (some a) _ _ => ldCs s a (n * size)
  | .slice none _ _ => if n * size = 0 then some ([], s) else none
  | .string b => if size = 1 ∧ n = b.size then some ((b.extract 0 n).data.toList.map (fun x => .int .u8 x.toNat), s) else none
  | _ => none
theorem firstC_shape {size n : Nat} {v : Value} {s s1 : St} {l : List Value} (h : firstC size n v s = some (l, s1)) : (s1 = s ∨ ∃ b, s1 = s.rd b) ∧ l.length = n * size := by
  unfold firstC at h
  split at h
  · obtain ⟨h1, h2⟩ := ldCs_shape h
    exact ⟨h1.imp id (fun e => ⟨_, e⟩), h2⟩
  · split at h
    · rename_i h0
      injection h with h; injection h with h1 h2; subst h1 h2; exact ⟨.inl rfl, by simpa using h0.symm⟩
    · cases h
  · split at h
    · rename_i h0
      injection h with h; injection h with h1 h2; subst h1 h2
      refine ⟨.inl rfl, ?_⟩
      obtain ⟨h1, h2⟩ := h0
      subst h1 h2
      simp
    · cases h
  · cases h
theorem firstC_read (P : Program) {size n : Nat} {v : Value} {s s1 : St} {l : List Value} (h : firstC size n v s = some (l, s1)) {F : Fp} (hF : Fp.Sub s1.fp F) {ρ : Map} {w : World} (hi : Inv F ρ s w) {v' : Value} (hv : VRel ρ v v') :
    ∃ r, (∀ wd : World, wd.heap = w.heap → (Builtin.firstCells size n v').run P wd = .ok r wd) ∧ ARel ρ ⟨l⟩ r := by
  unfold firstC at h
  split at h
  · obtain ⟨a', c', e, hr⟩ := hv.slice_inv
    subst e
    exact ldCs_read P h hF hi hr
  · split at h
    · injection h with h; injection h with h1 h2; subst h1 h2
      cases hv
      exact ⟨#[], fun _ _ => rfl, rfl, fun i h1 _ => by simp at h1⟩
    · cases h
  · split at h
    · injection h with h; injection h with h1 h2; subst h1 h2
      have e := hv.string_inv
      subst e
      refine ⟨_, fun _ _ => rfl, ?_⟩
      refine ⟨by simp, fun i h1 h2 => ?_⟩
      simp
      exact .int _ _
    · cases h
  · cases h
theorem Mono.rd {s s1 : St} (h : s1 = s ∨ ∃ b, s1 = s.rd b) : Mono s s1 := by
  rcases h with e | ⟨b, e⟩ <;> subst e
  · exact .refl _
  · exact s.rd_mono b
theorem Inv.rd {F : Fp} {ρ : Map} {s s1 : St} {w : World} (hi : Inv F ρ s w) (h : s1 = s ∨ ∃ b, s1 = s.rd b) : Inv F ρ s1 w := by
  rcases h with e | ⟨b, e⟩ <;> subst e
  · exact hi
  · exact ⟨hi.at_, hi.inj, hi.lt, hi.ok⟩
theorem Ext.rd {W : Nat} {ρ : Map} {s s1 : St} {w : World} (h : s1 = s ∨ ∃ b, s1 = s.rd b) : Ext W ρ ρ s s1 w w := by
  rcases h with e | ⟨b, e⟩ <;> subst e
  · exact .refl _ _ _ _
  · exact ⟨.refl _, Nat.le_refl _, fun _ _ _ => rfl, fun _ _ _ => rfl, fun _ _ => rfl, fun _ _ => .inl rfl, fun _ _ _ => rfl, Nat.le_refl _, fun b c h1 h2 => absurd h1 (by simp only [St.rd] at h2; omega), rfl, rfl, rfl, fun _ => .refl _⟩
theorem Inv.drew {F : Fp} {ρ : Map} {s : St} {w w1 : World} (hi : Inv F ρ s w) (h : w1.heap = w.heap) : Inv F ρ s w1 :=
  ⟨fun b h1 h2 => (hi.at_ b h1 h2).keep (.refl _) rfl (fun b' _ => by rw [h]) (fun _ => .of_same fun c _ => by rw [h]), hi.inj, fun b x hx => by rw [h]; exact hi.lt b x hx, hi.ok⟩

theorem firstC_ok (P : Program) {size n : Nat} {v : Value} {s s1 : St} {l : List Value} (h : firstC size n v s = some (l, s1)) :
    Simu P s s1 (fun ρ v' => VRel ρ v v') (fun v' => Builtin.firstCells size n v') (fun ρ r => ARel ρ ⟨l⟩ r) :=
  ⟨Mono.rd (firstC_shape h).1, fun F hF ρ w v' _ hi hv => by
    obtain ⟨r, h1, h2⟩ := firstC_read P h hF hi hv
    exact ⟨ρ, w, hi.rd (firstC_shape h).1, .rd (firstC_shape h).1, r, h1 w rfl, h2⟩⟩

/-! copy -/
def copyC (P : Program) (ev : Operand → Value) (c : Call) (s : St) : Option (NextC × St) :=
  match c.callee with
  | .builtin .copy => match c.argTypes[0]?, c.args[0]?, c.args[1]? with
    | some t, some x, some y => match P.underlying t, ev x, lenOfC (ev y) with
      | some (.slice elem), .slice base dLen _, some sl => match P.info? elem with
        | some ie => match firstC ie.size (Nat.min sl dLen) (ev y) s with
          | some (l, s1) => match base with
            | none => some (.val (.int .i64 (Nat.min sl dLen)), s1)
            | some a => match stCs s1 a l with
              | some s2 => some (.val (.int .i64 (Nat.min sl dLen)), s2)
              | none => none
          | none => none
        | none => none
      | _, _, _ => none
    | _, _, _ => none
  | _ => none
theorem lenOfC_inv {ρ : Map} {v v' : Value} {n : Nat} (h : lenOfC v = some n) (hr : VRel ρ v v') (P : Program) (w : World) : (Builtin.lenOf v').run P w = .ok n w := by
  cases hr <;> first | (cases h; done) | (simp only [lenOfC] at h; injection h with h; subst h; rfl)
theorem copy_ok (P : Program) (ev : Operand → Value) {o : Oper} {c : Call} {s s1 : St} {n : NextC} (ho : o.op = .call c) (h : copyC P ev c s = some (n, s1)) : OpOk P ev o s s1 n := by
  unfold copyC at h
  split at h
  · rename_i hc
    split at h
    · rename_i t x y ht hx hy
      have hm1 : x ∈ o.op.operands := by simp [ho, Op.operands, Call.operands, Array.mem_of_getElem? hx]
      have hm2 : y ∈ o.op.operands := by simp [ho, Op.operands, Call.operands, Array.mem_of_getElem? hy]
      split at h
      · rename_i elem base dLen cp sl hd hvx hvy
        split at h
        · rename_i ie hie
          split at h
          · rename_i l s2 hf
            have h1 : Simu P s s2 (fun ρ ev' => EvR ρ ev o.op ev') (fun ev' => Builtin.firstCells ie.size (Nat.min sl dLen) (ev' y)) (fun ρ r => ARel ρ ⟨l⟩ r) := (firstC_ok P hf).map (γ := Operand → Value) (fun ev' => ev' y) (fun ρ ev' he => he y hm2)
            have pre : ∀ {ρ ev' w}, EvR ρ ev o.op ev' → ∃ b' c', ev' x = .slice b' dLen c' ∧ b'.isSome = base.isSome ∧ (∀ a, base = some a → ∃ a', b' = some a' ∧ AdR ρ a a') ∧ (Builtin.lenOf (ev' y)).run P w = .ok sl w := by
              intro ρ ev' w he
              have q := he x hm1
              rw [hvx] at q
              have q2 := lenOfC_inv hvy (he y hm2) P w
              cases base with
              | none =>
                generalize ev' x = z at q
                cases q with
                | slNil => exact ⟨none, cp, rfl, rfl, (fun a e => by cases e), q2⟩
              | some a =>
                obtain ⟨a', c', e, hr⟩ := q.slice_inv
                exact ⟨some a', c', e, rfl, fun a0 e0 => by injection e0 with e0; subst e0; exact ⟨a', rfl, hr⟩, q2⟩
            split at h
            · injection h with h; injection h with e1 e2
              subst e1 e2
              refine h1.use id (fun _ _ => .value (.int .i64 (Nat.min sl dLen))) (fun _ _ h => h) (fun ρ w ev' he => ?_) (fun ρ ρ1 ev' r _ _ _ => .val _ _ (.int _ _))
              obtain ⟨b', c', e1, e2, _, e4⟩ := pre (w := w) he
              have e3 : b' = none := by cases b' with
                | none => rfl
                | some _ => cases e2
              subst e3
              simp only [execOp, ho, resolve, hc, Array.getElem?_map, Sem.run_bind, Sem.run_pure, Result.andThen_ok, invoke, builtin, Builtin.copy_, ht, hx, hy, Option.map_some, run_underlying_of hd, e1, e4, run_sizeOf_of hie, goInt, andThen_assoc, id]
            · rename_i a
              split at h
              · rename_i s3 hst
                injection h with h; injection h with e1 e2
                subst e1 e2
                have h2 := (stCs_ok P hst).map (γ := (Operand → Value) × Array Value) (pre' := fun ρ x => EvR ρ ev o.op x.1 ∧ ARel ρ ⟨l⟩ x.2) (fun z => (getA (z.1 x), z.2.toList)) (fun ρ q hq => ⟨by
                  obtain ⟨b', c', e1, _, e3, _⟩ := pre (w := default) hq.1
                  obtain ⟨a', e4, e5⟩ := e3 a rfl
                  subst e4
                  simp only [e1, getA]
                  exact e5, hq.2.lrel⟩)
                refine (Simu.bind (k := fun (z : Operand → Value) (r : Array Value) => storeCells (getA (z x)) r.toList) h1 (fun ρ ρ1 x hl he => he.mono hl) h2).use id (fun _ _ => .value (.int .i64 (Nat.min sl dLen))) (fun _ _ h => h) (fun ρ w ev' he => ?_) (fun ρ ρ1 ev' r _ _ _ => .val _ _ (.int _ _))
                obtain ⟨b', c', e1, _, e3, e4⟩ := pre (w := w) he
                obtain ⟨a', e5, _⟩ := e3 a rfl
                subst e5
                simp only [execOp, ho, resolve, hc, Array.getElem?_map, Sem.run_bind, Sem.run_pure, Result.andThen_ok, invoke, builtin, Builtin.copy_, ht, hx, hy, Option.map_some, run_underlying_of hd, e1, e4, run_sizeOf_of hie, goInt, andThen_assoc, id, getA]
              · cases h
          · cases h
        · cases h
      · cases h
    · cases h
  · cases h
end Go.Canon
