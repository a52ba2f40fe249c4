/-
  Regions that draw their order: done in the text's order, with what each operation read and wrote.
-/
import Derived.Test.YtjdjmeiahchblaaGreatDoorCanN
namespace Go.Canon

structure Ent where
  tm : Tree Value
  s : St
  r : Nat
  w : Nat

def St.zero (s : St) : St := { s with r := 0, w := 0 }
def St.plus (s1 s : St) : St := { s1 with r := s.r ||| s1.r, w := s.w ||| s1.w }

def doOpsD (P : Program) (call : CF → St → Option (Value × St)) (all : Array Oper) (sz : Nat) : List Oper → Tree Value → St → Option (List Ent × Tree Value × St)
  | [], tm, s => some ([], tm, s)
  | o :: os, tm, s =>
    if Region.wanted o (yieldedT all tm) then
      if okOp P o then match doOp P call (evT tm) o s.zero with
        | some (v, s1) => match putC tm sz o.dst v with
          | some tm1 => match doOpsD P call all sz os tm1 (s1.plus s) with
            | some (l, tmE, sE) => some (⟨tm, s, s1.r, s1.w⟩ :: l, tmE, sE)
            | none => none
          | none => none
        | none => none
      else none
    else match putC tm sz o.dst undef with
      | some tm1 => match doOpsD P call all sz os tm1 s with
        | some (l, tmE, sE) => some (⟨tm, s, 0, 0⟩ :: l, tmE, sE)
        | none => none
      | none => none

/-- before operation i -/
def tmF (l : List Ent) (tmE : Tree Value) (i : Nat) : Tree Value := match l[i]? with | some e => e.tm | none => tmE
def sF (l : List Ent) (sE : St) (i : Nat) : St := match l[i]? with | some e => e.s | none => sE
def rF (l : List Ent) (i : Nat) : Nat := match l[i]? with | some e => e.r | none => 0
def wF (l : List Ent) (i : Nat) : Nat := match l[i]? with | some e => e.w | none => 0

def StepAt (P : Program) (call : CF → St → Option (Value × St)) (all : Array Oper) (sz : Nat) (o : Oper) (l : List Ent) (tmE : Tree Value) (sE : St) (i : Nat) : Prop :=
  (Region.wanted o (yieldedT all (tmF l tmE i)) = true ∧ okOp P o = true ∧ ∃ v s1, doOp P call (evT (tmF l tmE i)) o (sF l sE i).zero = some (v, s1) ∧ putC (tmF l tmE i) sz o.dst v = some (tmF l tmE (i + 1)) ∧ sF l sE (i + 1) = s1.plus (sF l sE i) ∧ rF l i = s1.r ∧ wF l i = s1.w) ∨
  (Region.wanted o (yieldedT all (tmF l tmE i)) = false ∧ putC (tmF l tmE i) sz o.dst undef = some (tmF l tmE (i + 1)) ∧ sF l sE (i + 1) = sF l sE i ∧ rF l i = 0 ∧ wF l i = 0)

theorem doOpsD_steps {P : Program} {call : CF → St → Option (Value × St)} {all : Array Oper} {sz : Nat} : ∀ (os : List Oper) (tm : Tree Value) (s : St) (l : List Ent) (tmE : Tree Value) (sE : St), doOpsD P call all sz os tm s = some (l, tmE, sE) →
    l.length = os.length ∧ tmF l tmE 0 = tm ∧ sF l sE 0 = s ∧ ∀ i o, os[i]? = some o → StepAt P call all sz o l tmE sE i := by
  intro os
  induction os with
  | nil =>
    intro tm s l tmE sE h
    simp only [doOpsD] at h
    injection h with h; injection h with h1 h2; injection h2 with h2 h3
    subst h1 h2 h3
    exact ⟨rfl, rfl, rfl, fun i o ho => by simp at ho⟩
  | cons o os ih =>
    intro tm s l tmE sE h
    simp only [doOpsD] at h
    split at h
    · rename_i hw
      split at h
      · rename_i hok
        split at h
        · rename_i v s1 hop
          split at h
          · rename_i tm1 hput
            split at h
            · rename_i l2 tmE2 sE2 hrest
              injection h with h; injection h with h1 h2; injection h2 with h2 h3
              subst h1 h2 h3
              obtain ⟨k1, k2, k3, k4⟩ := ih _ _ _ _ _ hrest
              refine ⟨by simp [k1], rfl, rfl, fun i o' ho => ?_⟩
              cases i with
              | zero =>
                simp only [List.getElem?_cons_zero, Option.some.injEq] at ho
                subst ho
                refine .inl ⟨hw, hok, v, s1, hop, ?_, ?_, rfl, rfl⟩
                · show putC tm sz o.dst v = some (tmF l2 tmE2 0)
                  rw [k2]; exact hput
                · show sF l2 sE2 0 = _
                  rw [k3]; rfl
              | succ i => exact k4 i o' (by simpa using ho)
            · cases h
          · cases h
        · cases h
      · cases h
    · rename_i hw
      split at h
      · rename_i tm1 hput
        split at h
        · rename_i l2 tmE2 sE2 hrest
          injection h with h; injection h with h1 h2; injection h2 with h2 h3
          subst h1 h2 h3
          obtain ⟨k1, k2, k3, k4⟩ := ih _ _ _ _ _ hrest
          refine ⟨by simp [k1], rfl, rfl, fun i o' ho => ?_⟩
          cases i with
          | zero =>
            simp only [List.getElem?_cons_zero, Option.some.injEq] at ho
            subst ho
            refine .inr ⟨(Bool.not_eq_true _).mp hw, ?_, ?_, rfl, rfl⟩
            · show putC tm sz o.dst undef = some (tmF l2 tmE2 0)
              rw [k2]; exact hput
            · show sF l2 sE2 0 = _
              rw [k3]; rfl
          | succ i => exact k4 i o' (by simpa using ho)
        · cases h
      · cases h

/-! the checks -/
def confB (bj rj wj : Nat) : Nat → List Ent → Bool
  | _, [] => true
  | i, e :: l => (bj.testBit i || ((Nat.land e.w (rj ||| wj) == 0) && (Nat.land wj e.r == 0))) && confB bj rj wj (i + 1) l
def confAll (bs : List Nat) (pre : List Ent) : List Ent → Bool
  | [] => true
  | e :: l => ((e.r == 0 && e.w == 0) || confB (bs.headD 0) e.r e.w 0 pre) && confAll bs.tail (pre ++ [e]) l
def apartB (ops : Array Oper) (bs : List Nat) : Bool :=
  ops.toList.zipIdx.all fun (o, j) => (ops.toList.take j).zipIdx.all fun (p, i) => (bs.getD j 0).testBit i || p.apart ops o

theorem land_zero {a b : Nat} (h : Nat.land a b = 0) (i : Nat) (ha : a.testBit i = true) (hb : b.testBit i = true) : False := by
  have : (a &&& b).testBit i = true := by rw [Nat.testBit_and, ha, hb]; rfl
  rw [show a &&& b = Nat.land a b from rfl, h] at this
  simp at this
theorem confB_spec {bj rj wj : Nat} : ∀ (l : List Ent) (i0 : Nat), confB bj rj wj i0 l = true → ∀ i e, l[i]? = some e → bj.testBit (i0 + i) = true ∨ ((∀ b, e.w.testBit b = true → rj.testBit b = true ∨ wj.testBit b = true → False) ∧ ∀ b, wj.testBit b = true → e.r.testBit b = true → False)
  | [], _, _, _, _, h => by simp at h
  | e :: l, i0, h, 0, e', he => by
    simp only [List.getElem?_cons_zero, Option.some.injEq] at he
    subst he
    simp only [confB, Bool.and_eq_true, Bool.or_eq_true, beq_iff_eq] at h
    rcases h.1 with h1 | ⟨h1, h2⟩
    · exact .inl h1
    · refine .inr ⟨fun b h3 h4 => land_zero h1 b h3 ?_, fun b h3 h4 => land_zero h2 b h3 h4⟩
      rw [Nat.testBit_or]
      rcases h4 with h4 | h4 <;> simp [h4]
  | e :: l, i0, h, i + 1, e', he => by
    simp only [List.getElem?_cons_succ] at he
    simp only [confB, Bool.and_eq_true] at h
    have := confB_spec l (i0 + 1) h.2 i e' he
    rwa [show i0 + 1 + i = i0 + (i + 1) by omega] at this
theorem confAll_spec : ∀ (l : List Ent) (bs : List Nat) (pre : List Ent), confAll bs pre l = true → ∀ j ej i ei, l[j]? = some ej → (pre ++ l)[i]? = some ei → i < pre.length + j →
    (bs.getD j 0).testBit i = true ∨ ((∀ b, ei.w.testBit b = true → ej.r.testBit b = true ∨ ej.w.testBit b = true → False) ∧ ∀ b, ej.w.testBit b = true → ei.r.testBit b = true → False)
  | [], _, _, _, _, _, _, _, h, _, _ => by simp at h
  | e :: l, bs, pre, h, 0, ej, i, ei, hj, hi, hlt => by
    simp only [List.getElem?_cons_zero, Option.some.injEq] at hj
    subst hj
    simp only [confAll, Bool.and_eq_true, Bool.or_eq_true, beq_iff_eq] at h
    rcases h.1 with ⟨h1, h2⟩ | h1
    · refine .inr ⟨fun b _ h4 => ?_, fun b h3 _ => ?_⟩
      · rw [h1, h2] at h4; simp at h4
      · rw [h2] at h3; simp at h3
    · rw [List.getElem?_append_left (by omega)] at hi
      have := confB_spec pre 0 h1 i ei hi
      rw [Nat.zero_add] at this
      have e1 : bs.getD 0 0 = bs.headD 0 := by cases bs <;> rfl
      rw [e1]
      exact this
  | e :: l, bs, pre, h, j + 1, ej, i, ei, hj, hi, hlt => by
    simp only [List.getElem?_cons_succ] at hj
    simp only [confAll, Bool.and_eq_true] at h
    have := confAll_spec l bs.tail (pre ++ [e]) h.2 j ej i ei hj (by simpa using hi) (by simp; omega)
    have e1 : bs.tail.getD j 0 = bs.getD (j + 1) 0 := by cases bs <;> simp
    rwa [e1] at this
theorem apartB_spec {ops : Array Oper} {bs : List Nat} (h : apartB ops bs = true) {i j : Nat} {p o : Oper} (hi : ops[i]? = some p) (hj : ops[j]? = some o) (hlt : i < j) : (bs.getD j 0).testBit i = true ∨ p.apart ops o = true := by
  unfold apartB at h
  rw [List.all_eq_true] at h
  have hm : (o, j) ∈ ops.toList.zipIdx := by rw [List.mem_zipIdx_iff_getElem?]; simpa using hj
  have h1 := h _ hm
  simp only at h1
  rw [List.all_eq_true] at h1
  have hm2 : (p, i) ∈ (ops.toList.take j).zipIdx := by
    rw [List.mem_zipIdx_iff_getElem?]
    rw [List.getElem?_take, if_pos hlt]
    simpa using hi
  have h2 := h1 _ hm2
  simpa using h2

/-- one of both must come before the other -/
def Ord (ops : Array Oper) (i j : Nat) : Prop := (i < j ∧ ((bef ops).getD j 0).testBit i = true) ∨ (j < i ∧ ((bef ops).getD i 0).testBit j = true)

def okRegion (ops : Array Oper) : Bool := backB ops && apartB ops (bef ops)

theorem conf_ord {ops : Array Oper} {l : List Ent} (hc : confAll (bef ops) [] l = true) {i j : Nat} (hi : i < l.length) (hj : j < l.length) (hne : i ≠ j) {b : Nat} (hw : (wF l i).testBit b = true) (hr : (rF l j).testBit b = true ∨ (wF l j).testBit b = true) : Ord ops i j := by
  have hei : l[i]? = some l[i] := List.getElem?_eq_getElem hi
  have hej : l[j]? = some l[j] := List.getElem?_eq_getElem hj
  have w1 : wF l i = l[i].w := by simp [wF, hei]
  have w2 : wF l j = l[j].w := by simp [wF, hej]
  have r2 : rF l j = l[j].r := by simp [rF, hej]
  rw [w1] at hw
  rw [w2, r2] at hr
  rcases Nat.lt_or_gt_of_ne hne with hlt | hlt
  · rcases confAll_spec l _ [] hc j l[j] i l[i] hej (by simp [hei]) (by simpa using hlt) with h1 | ⟨h1, _⟩
    · exact .inl ⟨hlt, h1⟩
    · exact (h1 b hw hr).elim
  · rcases confAll_spec l _ [] hc i l[i] j l[j] hei (by simp [hej]) (by simpa using hlt) with h1 | ⟨h1, h2⟩
    · exact .inr ⟨hlt, h1⟩
    · rcases hr with hr | hr
      · exact (h2 b hw hr).elim
      · exact (h1 b hr (.inr hw)).elim
theorem apart_ord {ops : Array Oper} (ha : apartB ops (bef ops) = true) {i j : Nat} {p o : Oper} (hi : ops[i]? = some p) (hj : ops[j]? = some o) (hne : i ≠ j) {d : Tmp} (hd : p.dst = some d) (hl : d ∈ o.looksAt ops ∨ o.dst = some d) : Ord ops i j := by
  rcases Nat.lt_or_gt_of_ne hne with hlt | hlt
  · rcases apartB_spec ha hi hj hlt with h1 | h1
    · exact .inl ⟨hlt, h1⟩
    · obtain ⟨a1, a2, _⟩ := Oper.apart_spec h1
      rcases hl with hl | hl
      · exact (a1 d hd hl).elim
      · exact (a2 d hd hl).elim
  · rcases apartB_spec ha hj hi hlt with h1 | h1
    · exact .inr ⟨hlt, h1⟩
    · obtain ⟨a1, a2, a3⟩ := Oper.apart_spec h1
      rcases hl with hl | hl
      · exact (a3 d hd hl).elim
      · exact (a2 d hl hd).elim
end Go.Canon
