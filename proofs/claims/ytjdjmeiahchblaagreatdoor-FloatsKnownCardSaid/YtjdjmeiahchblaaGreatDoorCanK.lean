/-
  All operations in one.
-/
import Derived.Test.YtjdjmeiahchblaaGreatDoorCanJ
namespace Go.Canon

def pureR (P : Program) (ev : Operand → Value) (o : Oper) (s : St) : Option (NextC × St) :=
  match pureOp P ev o with
  | some v => some (.val v, s)
  | none => none
theorem pureR_ok (P : Program) {ev : Operand → Value} {o : Oper} {s s1 : St} {n : NextC} (h : pureR P ev o s = some (n, s1)) : OpOk P ev o s s1 n := by
  unfold pureR at h
  split at h
  · rename_i v hv
    injection h with h; injection h with h1 h2
    subst h1 h2
    exact pureOp_ok P _ hv
  · cases h

def stillR (v : Option Value) (s : St) : Option (NextC × St) :=
  match v with
  | some v => some (.val v, s)
  | none => none
theorem stillR_inv {v : Option Value} {s s1 : St} {n : NextC} (h : stillR v s = some (n, s1)) : ∃ x, v = some x ∧ n = .val x ∧ s1 = s := by
  unfold stillR at h
  split at h
  · injection h with h; injection h with h1 h2
    exact ⟨_, rfl, h1.symm, h2.symm⟩
  · cases h

def callAll (P : Program) (ev : Operand → Value) (o : Oper) (c : Call) (s : St) : Option (NextC × St) :=
  match c.callee with
  | .builtin b => match b with
    | .append => appendC P ev c s
    | .copy => copyC P ev c s
    | .len => match lenC P ev c with
      | some v => some (.val v, s)
      | none => pureR P ev o s
    | _ => pureR P ev o s
  | .value fo => match ev fo with
    | .func (.yield _) _ _ => yieldC ev c s
    | _ => match callC P ev c with
      | some n => some (n, s)
      | none => pureR P ev o s
  | .invoke _ _ => none

def opC (P : Program) (ev : Operand → Value) (o : Oper) (s : St) : Option (NextC × St) :=
  match o.op with
  | .move x => some (.val (ev x), s)
  | .assign x => some (.val (ev x), s)
  | .alloc t => allocC P t s
  | .box t x => boxC t (ev x) s
  | .load t x => loadC P t (ev x) s
  | .store t x y => storeC P t (ev x) (ev y) s
  | .fieldAddr st x f => stillR (fieldAddrC P st (ev x) f) s
  | .indexAddr t x i => stillR (indexAddrC P t (ev x) (ev i)) s
  | .extract x i => stillR (extractC (ev x) i) s
  | .makeSlice t x y => makeSliceC P t (ev x) (ev y) s
  | .call c => callAll P ev o c s
  | .slice t x lo hi mx => match ev x with
    | .slice (some _) _ _ => sliceC P t (ev x) (lo.map ev) (hi.map ev) (mx.map ev) s
    | _ => pureR P ev o s
  | .build t parts => stillR (buildC P t (parts.map fun p => (p.1, ev p.2))) s
  | .buildSlice t len parts => buildSliceC P t len (parts.map fun p => (p.1, ev p.2)) s
  | .nilCheck x => stillR (nilCheckC (ev x)) s
  | .makeFunc fn first cap => stillR (makeFuncC ev fn first cap) s
  | .makeInterface t x => stillR (makeIfaceC P t (ev x)) s
  | .field t x f => stillR (fieldC P t (ev x) f) s
  | .pick c a b => stillR (pickC (ev c) (ev a) (ev b)) s
  | .binOp op t x y _ => match pureR P ev o s with
    | some r => some r
    | none => stillR (binOpC P op t (ev x) (ev y)) s
  | .convert src dst x => match ev x with
    | .slice (some _) _ _ => convC P src dst (ev x) s
    | .string _ => match strBytesC P src dst (ev x) s with
      | some r => some r
      | none => pureR P ev o s
    | _ => pureR P ev o s
  | _ => pureR P ev o s

theorem opC_ok (P : Program) (hP : NG P) {ev : Operand → Value} {o : Oper} {s s1 : St} {n : NextC} (h : opC P ev o s = some (n, s1)) : OpOk P ev o s s1 n := by
  unfold opC at h
  split at h
  · rename_i x ho; injection h with h; injection h with h1 h2; subst h1 h2; exact move_ok P ev _ (.inl ho)
  · rename_i x ho; injection h with h; injection h with h1 h2; subst h1 h2; exact move_ok P ev _ (.inr ho)
  · rename_i t ho; exact alloc_ok P ev ho h
  · rename_i t x ho; exact box_ok P ev ho h
  · rename_i t x ho; exact load_ok P ev ho h
  · rename_i t x y ho; exact store_ok P ev ho h
  · rename_i st x f ho; obtain ⟨v, h1, rfl, rfl⟩ := stillR_inv h; exact fieldAddr_ok P ev _ ho h1
  · rename_i t x i ho; obtain ⟨v, h1, rfl, rfl⟩ := stillR_inv h; exact indexAddr_ok P ev _ ho h1
  · rename_i x i ho; obtain ⟨v, h1, rfl, rfl⟩ := stillR_inv h; exact extract_ok P ev _ ho h1
  · rename_i t x y ho; exact makeSlice_ok P ev ho h
  · rename_i c ho
    unfold callAll at h
    split at h
    · split at h
      · exact append_ok P ev ho h
      · exact copy_ok P ev ho h
      · split at h
        · rename_i v hv
          injection h with h; injection h with h1 h2; subst h1 h2
          exact len_ok P ev _ ho hv
        · exact pureR_ok P h
      · exact pureR_ok P h
    · split at h
      · exact yield_ok P ev ho h
      · split at h
        · rename_i n' hn
          injection h with h; injection h with h1 h2; subst h1 h2
          exact call_ok P hP ev _ ho hn
        · exact pureR_ok P h
    · cases h
  · rename_i t x lo hi mx ho
    split at h
    · exact slice_ok P ev ho h
    · exact pureR_ok P h
  · rename_i t parts ho; obtain ⟨v, h1, rfl, rfl⟩ := stillR_inv h; exact build_ok P ev _ ho h1
  · rename_i t len parts ho; exact buildSlice_ok P ev ho h
  · rename_i x ho; obtain ⟨v, h1, rfl, rfl⟩ := stillR_inv h; exact nilCheck_ok P ev _ ho h1
  · rename_i fn first cap ho; obtain ⟨v, h1, rfl, rfl⟩ := stillR_inv h; exact makeFunc_ok P ev _ ho h1
  · rename_i t x ho; obtain ⟨v, h1, rfl, rfl⟩ := stillR_inv h; exact makeIface_ok P ev _ ho h1
  · rename_i t x f ho; obtain ⟨v, h1, rfl, rfl⟩ := stillR_inv h; exact field_ok P ev _ ho h1
  · rename_i c a b ho; obtain ⟨v, h1, rfl, rfl⟩ := stillR_inv h; exact pick_ok P ev _ ho h1
  · rename_i op t x y u ho
    split at h
    · rename_i r hr
      injection h with h
      subst h
      exact pureR_ok P hr
    · obtain ⟨v, h1, rfl, rfl⟩ := stillR_inv h; exact binOp_ok P ev _ ho h1
  · rename_i src dst x ho
    split at h
    · exact conv_ok P ev ho h
    · split at h
      · rename_i r hr
        injection h with h
        subst h
        exact strBytes_ok P ev ho hr
      · exact pureR_ok P h
    · exact pureR_ok P h
  · exact pureR_ok P h
end Go.Canon
