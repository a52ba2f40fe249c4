/-
  Operations on canonical values, and that the model's operations answer them.
-/
import Derived.Test.YtjdjmeiahchblaaGreatDoorCanC
import Derived.Orders
namespace Go.Canon

inductive NextC where
  | val (v : Value)
  | skip
  | enter (f : FuncId) (args : Array Value)
  | round (l : Nat) (fn : FuncId) (tm : Tree Value) (sz : Nat) (assign body : Code)

inductive NRel (ρ : Map) : NextC → Next → Prop
  | val (v v' : Value) : VRel ρ v v' → NRel ρ (.val v) (.value v')
  | skip : NRel ρ .skip .skip
  | enter (f : FuncId) (x x' : Array Value) : ARel ρ x x' → NRel ρ (.enter f x) (.enter f x')
  | round (l l' : Nat) (fn : FuncId) (tm : Tree Value) (sz : Nat) (tmps : Array Value) (assign body : Code) : ρ l = .hard l' → TRel ρ tm sz tmps → NRel ρ (.round l fn tm sz assign body) (.round l' fn tmps assign body)

/-- what the operands are -/
def EvR (ρ : Map) (ev : Operand → Value) (op : Op) (ev' : Operand → Value) : Prop := ∀ x ∈ op.operands, VRel ρ (ev x) (ev' x)
theorem EvR.mono {ρ ρ1 : Map} {ev ev' : Operand → Value} {op : Op} (h : EvR ρ ev op ev') (hl : le ρ ρ1) : EvR ρ1 ev op ev' := fun x hx => (h x hx).mono hl

theorem andThen_assoc {α β γ : Type} (r : Result α) (f : α → World → Result β) (g : β → World → Result γ) : (r.andThen f).andThen g = r.andThen fun a w => (f a w).andThen g := by cases r <;> rfl

abbrev OpOk (P : Program) (ev : Operand → Value) (o : Oper) (s s1 : St) (n : NextC) : Prop :=
  Simu P s s1 (fun ρ ev' => EvR ρ ev o.op ev') (fun ev' => execOp ev' o) (fun ρ r => NRel ρ n r)

theorem Simu.use {α β γ δ : Type} {P : Program} {s s1 : St} {pre : Map → α → Prop} {sem : α → Sem β} {post : Map → β → Prop} {pre' : Map → δ → Prop} {sem' : δ → Sem γ} {post' : Map → γ → Prop}
    (h : Simu P s s1 pre sem post) (g : δ → α) (f : δ → β → γ) (hpre : ∀ ρ x, pre' ρ x → pre ρ (g x))
    (he : ∀ ρ w x, pre' ρ x → (sem' x).run P w = ((sem (g x)).run P w).andThen fun r w' => .ok (f x r) w')
    (hp : ∀ ρ ρ1 x r, le ρ ρ1 → pre' ρ x → post ρ1 r → post' ρ1 (f x r)) : Simu P s s1 pre' sem' post' := by
  refine ⟨h.1, fun F hF ρ w x hf hi hx => ?_⟩
  obtain ⟨ρ1, w1, i1, e1, r, hr, hpo⟩ := h.2 F hF ρ w (g x) hf hi (hpre ρ x hx)
  exact ⟨ρ1, w1, i1, e1, f x r, by rw [he ρ w x hx, hr]; rfl, hp _ _ _ _ e1.le hx hpo⟩

/-- what looks at no memory -/
def pureS {α : Type} (P : Program) : Sem α → Option α
  | .pure a => some a
  | .program k => pureS P (k P)
  | .mark _ k => pureS P k
  | _ => none
theorem pureS_run {α : Type} (P : Program) (w : World) : ∀ (x : Sem α) (a : α), pureS P x = some a → x.run P w = .ok a w := by
  intro x
  induction x with
  | pure a => intro b h; simp only [pureS] at h; injection h with h; subst h; rfl
  | program k ih => intro b h; exact ih P b h
  | mark m k ih => intro b h; exact ih b h
  | _ => intro b h; cases h

def noSelect : Op → Bool
  | .select .. => false
  | _ => true

def pureOp (P : Program) (ev : Operand → Value) (o : Oper) : Option Value :=
  if o.op.operands.toList.all (fun x => ground 9 (ev x)) && noSelect o.op then
    match pureS P (execOp ev o) with
    | some (.value v) => if ground 9 v then some v else none
    | _ => none
  else none

theorem pureOp_ok (P : Program) {ev : Operand → Value} {o : Oper} {v : Value} (s : St) (h : pureOp P ev o = some v) : OpOk P ev o s s (.val v) := by
  unfold pureOp at h
  split at h
  · rename_i hg
    simp only [Bool.and_eq_true, List.all_eq_true] at hg
    split at h
    · rename_i v' hv
      split at h
      · rename_i hgv
        injection h with h
        subst h
        refine Simu.still fun ρ w ev' he => ⟨.value v', ?_, .val _ _ (ground_rel 9 v' hgv ρ)⟩
        have hc : execOp ev' o = execOp ev o := execOp_congr o (fun cs b e => by rw [e] at hg; exact absurd hg.2 (by simp [noSelect])) fun x hx => ground_eq 9 _ (hg.1 x (by simpa using hx)) ρ _ (he x hx)
        rw [hc]
        exact pureS_run P w _ _ hv
      · cases h
    · cases h
  · cases h

/-! the tables of types -/
theorem run_underlying_of {P : Program} {t : TypeId} {d : TypeDesc} (h : P.underlying t = some d) (w : World) : (underlying t).run P w = .ok d w := by
  simp [underlying, h]
theorem run_typeInfo_of {P : Program} {t : TypeId} {i : TypeInfo} (h : P.info? t = some i) (w : World) : (typeInfo t).run P w = .ok i w := by
  simp [typeInfo, h]
theorem run_sizeOf_of {P : Program} {t : TypeId} {i : TypeInfo} (h : P.info? t = some i) (w : World) : (sizeOf t).run P w = .ok i.size w := by
  simp [sizeOf, run_typeInfo_of h]
theorem run_zeroValue_of {P : Program} {t : TypeId} {i : TypeInfo} {z : Value} (h : P.info? t = some i) (hz : i.zero = some z) (w : World) : (zeroValue t).run P w = .ok z w := by
  simp [zeroValue, run_typeInfo_of h, hz]
def aggD : TypeDesc → Bool
  | .struct _ | .array _ _ => true
  | _ => false
theorem run_isAgg_of {P : Program} {t : TypeId} {d : TypeDesc} (h : P.underlying t = some d) (w : World) : (isAgg t).run P w = .ok (aggD d) w := by
  unfold isAgg
  rw [Sem.run_bind, run_underlying_of h]
  cases d <;> rfl

def getA : Value → Addr
  | .pointer (some a) => a
  | .slice (some a) _ _ => a
  | _ => ⟨0, 0, none⟩

/-! moves -/
theorem move_ok (P : Program) (ev : Operand → Value) {o : Oper} {x : Operand} (s : St) (h : o.op = .move x ∨ o.op = .assign x) : OpOk P ev o s s (.val (ev x)) := by
  refine Simu.still fun ρ w ev' he => ⟨.value (ev' x), ?_, .val _ _ (he x ?_)⟩
  · rcases h with h | h <;> simp [execOp, h]
  · rcases h with h | h <;> simp [h, Op.operands]

/-! new variables -/
def allocC (P : Program) (t : TypeId) (s : St) : Option (NextC × St) :=
  match P.info? t with
  | some i => match i.zero with
    | some z => if ground 9 z then match newC s z.cells.toList t with
        | some (a, s1) => some (.val (.pointer (some a)), s1)
        | none => none
      else none
    | none => none
  | none => none
theorem alloc_ok (P : Program) (ev : Operand → Value) {o : Oper} {t : TypeId} {s s1 : St} {n : NextC} (ho : o.op = .alloc t) (h : allocC P t s = some (n, s1)) : OpOk P ev o s s1 n := by
  unfold allocC at h
  split at h
  · rename_i i hi
    split at h
    · rename_i z hz
      split at h
      · rename_i hg
        split at h
        · rename_i a s2 hn
          injection h with h; injection h with h1 h2
          subst h1 h2
          refine (newC_ok P hn).use (fun _ => z.cells) (fun _ a' => .value (.pointer (some a'))) (fun ρ x _ => (ground_rel 9 z hg ρ).cells) (fun ρ w x _ => ?_) (fun ρ ρ1 x r _ _ hp => .val _ _ ?_)
          · simp [execOp, ho, Instr.alloc, run_zeroValue_of hi hz, newVar]
          · exact AdR.ptr (.inl ⟨by rw [hp.1]; rfl, by rw [hp.2.1, hp.2.2.2.1], by rw [hp.2.2.1, hp.2.2.2.2]⟩)
        · cases h
      · cases h
    · cases h
  · cases h

def boxC (t : TypeId) (v : Value) (s : St) : Option (NextC × St) :=
  match newC s v.cells.toList t with
  | some (a, s1) => some (.val (.pointer (some a)), s1)
  | none => none
theorem box_ok (P : Program) (ev : Operand → Value) {o : Oper} {t : TypeId} {x : Operand} {s s1 : St} {n : NextC} (ho : o.op = .box t x) (h : boxC t (ev x) s = some (n, s1)) : OpOk P ev o s s1 n := by
  unfold boxC at h
  split at h
  · rename_i a s2 hn
    injection h with h; injection h with h1 h2
    subst h1 h2
    refine (newC_ok P hn).use (fun ev' => (ev' x).cells) (fun _ a' => .value (.pointer (some a'))) (fun ρ ev' he => (he x (by simp [ho, Op.operands])).cells) (fun ρ w ev' _ => ?_) (fun ρ ρ1 ev' r _ _ hp => .val _ _ ?_)
    · simp [execOp, ho, Instr.box, newVar]
    · exact AdR.ptr (.inl ⟨by rw [hp.1]; rfl, by rw [hp.2.1, hp.2.2.2.1], by rw [hp.2.2.1, hp.2.2.2.2]⟩)
  · cases h

/-! loads, stores -/
def ld1 (s : St) (a : Addr) : Option (Value × St) :=
  match ldCs s a 1 with
  | some ([v], s1) => some (v, s1)
  | _ => none
theorem loadCells_one (P : Program) (w : World) (a : Addr) (r : Array Value) (w1 : World) (h : (loadCells a 1).run P w = .ok r w1) : ∃ v, r = #[v] ∧ (load a).run P w = .ok v w1 := by
  have ea : a.add 0 = a := by simp [Addr.add]
  simp only [loadCells, loadCellsFrom, ea] at h
  rw [Sem.run_bind] at h
  cases hl : (load a).run P w with
  | ok v w2 =>
    rw [hl] at h
    simp only [Result.andThen_ok, Sem.run_pure] at h
    injection h with h1 h2
    subst h1 h2
    exact ⟨v, rfl, rfl⟩
  | halt e w2 => rw [hl] at h; cases h
theorem ld1_ok (P : Program) {s s1 : St} {a : Addr} {v : Value} (h : ld1 s a = some (v, s1)) :
    Simu P s s1 (fun ρ a' => AdR ρ a a') (fun a' => load a') (fun ρ r => VRel ρ v r) := by
  unfold ld1 at h
  split at h
  · rename_i v2 s2 hl
    injection h with h; injection h with h1 h2
    subst h1 h2
    refine ⟨(ldCs_ok P hl).1, fun F hF ρ w x hf hi hx => ?_⟩
    obtain ⟨ρ1, w1, i1, e1, r, hr, hp⟩ := (ldCs_ok P hl).2 F hF ρ w x hf hi hx
    obtain ⟨v, rfl, hv⟩ := loadCells_one P w x r w1 hr
    exact ⟨ρ1, w1, i1, e1, v, hv, hp.2 0 (by simp) (by simp)⟩
  · cases h

def loadC (P : Program) (t : TypeId) (v : Value) (s : St) : Option (NextC × St) :=
  match v with
  | .pointer (some a) => match P.underlying t with
    | some d => if aggD d then match P.info? t with
        | some i => match ldCs s a i.size with
          | some (l, s1) => some (.val (.agg ⟨l⟩), s1)
          | none => none
        | none => none
      else match ld1 s a with
        | some (v, s1) => some (.val v, s1)
        | none => none
    | none => none
  | _ => none
theorem load_ok (P : Program) (ev : Operand → Value) {o : Oper} {t : TypeId} {x : Operand} {s s1 : St} {n : NextC} (ho : o.op = .load t x) (h : loadC P t (ev x) s = some (n, s1)) : OpOk P ev o s s1 n := by
  unfold loadC at h
  split at h
  · rename_i a hx
    have inv : ∀ ρ ev', EvR ρ ev o.op ev' → ev' x = .pointer (some (getA (ev' x))) ∧ AdR ρ a (getA (ev' x)) := fun ρ ev' he => by
      have h1 := he x (by simp [ho, Op.operands])
      rw [hx] at h1
      obtain ⟨a', e, hr⟩ := h1.ptr_inv
      rw [e]
      exact ⟨rfl, hr⟩
    split at h
    · rename_i d hd
      split at h
      · rename_i hagg
        split at h
        · rename_i i hi
          split at h
          · rename_i l s2 hl
            injection h with h; injection h with h1 h2
            subst h1 h2
            refine (ldCs_ok P hl).use (fun ev' => getA (ev' x)) (fun _ r => .value (.agg r)) (fun ρ ev' he => (inv ρ ev' he).2) (fun ρ w ev' he => ?_) (fun ρ ρ1 ev' r _ _ hp => .val _ _ (.agg_of hp))
            simp only [execOp, ho, Instr.loadAt, loadVar]
            rw [(inv ρ ev' he).1]
            simp [Instr.sureAddr, run_isAgg_of hd, hagg, run_sizeOf_of hi, getA, andThen_assoc]
          · cases h
        · cases h
      · rename_i hagg
        split at h
        · rename_i v s2 hl
          injection h with h; injection h with h1 h2
          subst h1 h2
          refine (ld1_ok P hl).use (fun ev' => getA (ev' x)) (fun _ r => .value r) (fun ρ ev' he => (inv ρ ev' he).2) (fun ρ w ev' he => ?_) (fun ρ ρ1 ev' r _ _ hp => .val _ _ hp)
          simp only [execOp, ho, Instr.loadAt, loadVar]
          rw [(inv ρ ev' he).1]
          simp only [Instr.sureAddr, getA, Sem.run_bind, Sem.run_pure, Result.andThen_ok, run_isAgg_of hd, hagg, Bool.false_eq_true, if_false]
        · cases h
    · cases h
  · cases h

def storeC (P : Program) (t : TypeId) (p v : Value) (s : St) : Option (NextC × St) :=
  match p with
  | .pointer (some a) => match P.info? t with
    | some i => if v.cells.size = i.size then match stCs s a v.cells.toList with
        | some s1 => some (.skip, s1)
        | none => none
      else none
    | none => none
  | _ => none
theorem store_ok (P : Program) (ev : Operand → Value) {o : Oper} {t : TypeId} {x y : Operand} {s s1 : St} {n : NextC} (ho : o.op = .store t x y) (h : storeC P t (ev x) (ev y) s = some (n, s1)) : OpOk P ev o s s1 n := by
  unfold storeC at h
  split at h
  · rename_i a hx
    have inv : ∀ ρ ev', EvR ρ ev o.op ev' → ev' x = .pointer (some (getA (ev' x))) ∧ AdR ρ a (getA (ev' x)) := fun ρ ev' he => by
      have h1 := he x (by simp [ho, Op.operands])
      rw [hx] at h1
      obtain ⟨a', e, hr⟩ := h1.ptr_inv
      rw [e]
      exact ⟨rfl, hr⟩
    split at h
    · rename_i i hi
      split at h
      · rename_i hsz
        split at h
        · rename_i s2 hl
          injection h with h; injection h with h1 h2
          subst h1 h2
          refine (stCs_ok P hl).use (fun ev' => (getA (ev' x), (ev' y).cells.toList)) (fun _ _ => .skip) (fun ρ ev' he => ⟨(inv ρ ev' he).2, (he y (by simp [ho, Op.operands])).cells.lrel⟩) (fun ρ w ev' he => ?_) (fun ρ ρ1 ev' r _ _ hp => .skip)
          have hs2 : (ev' y).cells.size = i.size := ((he y (by simp [ho, Op.operands])).cells.1).symm.trans hsz
          simp only [execOp, ho, Instr.storeAt, storeVar]
          rw [(inv ρ ev' he).1]
          simp [Instr.sureAddr, run_sizeOf_of hi, getA, hs2]
        · cases h
      · cases h
    · cases h
  · cases h
end Go.Canon
