/-
  More operations: structs and slices that are built, copy, bytes to a string.
-/
import Derived.Test.YtjdjmeiahchblaaGreatDoorCanF
namespace Go.Canon

theorem ARel.setIfInBounds {ρ : Map} {x x' : Array Value} (h : ARel ρ x x') (i : Nat) {v v' : Value} (hv : VRel ρ v v') : ARel ρ (x.setIfInBounds i v) (x'.setIfInBounds i v') := by
  refine ⟨by simp [h.1], fun j h1 h2 => ?_⟩
  rw [Array.getElem_setIfInBounds (by simpa using h1), Array.getElem_setIfInBounds (by simpa using h2)]
  split
  · exact hv
  · exact h.2 j _ _
theorem lay_rel {ρ : Map} (off : Nat) : ∀ (l l' : List Value) (k : Nat) (x x' : Array Value), LRel ρ l l' → ARel ρ x x' →
    ARel ρ ((l.zipIdx k).foldl (fun cs (c, j) => cs.setIfInBounds (off + j) c) x) ((l'.zipIdx k).foldl (fun cs (c, j) => cs.setIfInBounds (off + j) c) x')
  | [], [], _, _, _, _, hx => hx
  | v :: l, v' :: l', k, x, x', h, hx => by
    simp only [List.zipIdx_cons, List.foldl_cons]
    exact lay_rel off l l' (k + 1) _ _ h.2 (hx.setIfInBounds _ h.1)
theorem lay_array {ρ : Map} (off : Nat) {y y' x x' : Array Value} (h : ARel ρ y y') (hx : ARel ρ x x') :
    ARel ρ (y.zipIdx.foldl (fun cs (c, j) => cs.setIfInBounds (off + j) c) x) (y'.zipIdx.foldl (fun cs (c, j) => cs.setIfInBounds (off + j) c) x') := by
  rw [← Array.foldl_toList, ← Array.foldl_toList, Array.toList_zipIdx, Array.toList_zipIdx]
  exact lay_rel off _ _ 0 _ _ h.lrel hx

/-- numbered values, value by value -/
def QRel (ρ : Map) : List (Nat × Value) → List (Nat × Value) → Prop
  | [], [] => True
  | v :: vs, v' :: vs' => v.1 = v'.1 ∧ VRel ρ v.2 v'.2 ∧ QRel ρ vs vs'
  | _, _ => False
theorem fill_rel {ρ : Map} (place : Nat → Option (Nat × Nat)) : ∀ (l l' : List (Nat × Value)) (x x' r : Array Value), QRel ρ l l' → ARel ρ x x' → Instr.fill place x l = some r → ∃ r', Instr.fill place x' l' = some r' ∧ ARel ρ r r'
  | [], [], x, x', r, _, hx, h => by
    simp only [Instr.fill] at h ⊢
    injection h with h
    subst h
    exact ⟨x', rfl, hx⟩
  | (i, v) :: l, (i', v') :: l', x, x', r, hq, hx, h => by
    obtain ⟨e, hv, hq⟩ := hq
    simp only at e hv
    subst e
    simp only [Instr.fill] at h ⊢
    split at h
    · cases h
    · rename_i off size hp
      have hc := hv.cells
      rw [← hc.1, ← hx.1]
      split at h
      · cases h
      · rename_i hn
        rw [if_neg hn]
        exact fill_rel place l l' _ _ r hq (lay_array off hc hx) h
theorem qrel_map {ρ : Map} (ev ev' : Operand → Value) : ∀ (l : List (Nat × Operand)), (∀ p ∈ l, VRel ρ (ev p.2) (ev' p.2)) → QRel ρ (l.map fun p => (p.1, ev p.2)) (l.map fun p => (p.1, ev' p.2))
  | [], _ => trivial
  | p :: l, h => ⟨rfl, h p (by simp), qrel_map ev ev' l fun q hq => h q (by simp [hq])⟩

def buildC (P : Program) (t : TypeId) (parts : Array (Nat × Value)) : Option Value :=
  match P.info? t with
  | some i => match i.zero with
    | some z => if ground 9 z then match P.underlying t with
        | some (.struct fields) => match pureS P (fields.mapM fun f => do pure (f.offset, ← sizeOf f.type)) with
          | some places => (Instr.fill (places[·]?) z.cells parts.toList).map .agg
          | none => none
        | some (.array _ elem) => match P.info? elem with
          | some ie => (Instr.fill (fun i => some (i * ie.size, ie.size)) z.cells parts.toList).map .agg
          | none => none
        | _ => none
      else none
    | none => none
  | none => none
theorem parts_rel {ρ : Map} {ev ev' : Operand → Value} (parts : Array (Nat × Operand)) (h : ∀ p ∈ parts, VRel ρ (ev p.2) (ev' p.2)) :
    QRel ρ (parts.map fun p => (p.1, ev p.2)).toList (parts.map fun p => (p.1, ev' p.2)).toList := by
  simp only [Array.toList_map]
  exact qrel_map ev ev' _ fun p hp => h p (by simpa using hp)
theorem build_ok (P : Program) (ev : Operand → Value) {o : Oper} {t : TypeId} {parts : Array (Nat × Operand)} (s : St) {v : Value} (ho : o.op = .build t parts) (h : buildC P t (parts.map fun p => (p.1, ev p.2)) = some v) : OpOk P ev o s s (.val v) := by
  have hops : ∀ {ρ ev'}, EvR ρ ev o.op ev' → QRel ρ (parts.map fun p => (p.1, ev p.2)).toList (parts.map fun p => (p.1, ev' p.2)).toList := fun he =>
    parts_rel parts fun p hp => he p.2 (by
      rw [ho]
      simp only [Op.operands]
      simp
      exact ⟨p.1, hp⟩)
  unfold buildC at h
  split at h
  · rename_i i hi
    split at h
    · rename_i z hz
      split at h
      · rename_i hg
        split at h
        · rename_i fields hd
          split at h
          · rename_i places hpl
            obtain ⟨r, hr, h⟩ := Option.map_eq_some_iff.1 h
            subst h
            refine Simu.still fun ρ w ev' he => ?_
            obtain ⟨r', hr', hrel⟩ := fill_rel _ _ _ _ _ _ (hops he) (ground_rel 9 z hg ρ).cells hr
            refine ⟨.value (.agg r'), ?_, .val _ _ (.agg_of hrel)⟩
            simp only [execOp, ho, Instr.build]
            simp only [Sem.run_bind, run_zeroValue_of hi hz, Result.andThen_ok, run_underlying_of hd, pureS_run P w _ _ hpl, hr', Sem.run_pure]
          · cases h
        · rename_i n elem hd
          split at h
          · rename_i ie hie
            obtain ⟨r, hr, h⟩ := Option.map_eq_some_iff.1 h
            subst h
            refine Simu.still fun ρ w ev' he => ?_
            obtain ⟨r', hr', hrel⟩ := fill_rel _ _ _ _ _ _ (hops he) (ground_rel 9 z hg ρ).cells hr
            refine ⟨.value (.agg r'), ?_, .val _ _ (.agg_of hrel)⟩
            simp only [execOp, ho, Instr.build]
            simp only [Sem.run_bind, run_zeroValue_of hi hz, Result.andThen_ok, run_underlying_of hd, run_sizeOf_of hie, hr', Sem.run_pure]
          · cases h
        · cases h
      · cases h
    · cases h
  · cases h

def buildSliceC (P : Program) (t : TypeId) (len : Nat) (parts : Array (Nat × Value)) (s : St) : Option (NextC × St) :=
  match P.underlying t with
  | some (.slice elem) => match P.info? elem with
    | some ie => match ie.zero with
      | some z => if len * ie.size > 2 ^ 24 then none else
        if (rowCells (len * ie.size) z).toList.all (ground 9) then
          match Instr.fill (fun i => some (i * ie.size, ie.size)) (rowCells (len * ie.size) z) parts.toList with
          | some cells => match newC s cells.toList elem with
            | some (a, s1) => some (.val (.slice (some a) len len), s1)
            | none => none
          | none => none
        else none
      | none => none
    | none => none
  | _ => none
theorem hard_slice {ρ : Map} {a r : Addr} {n c : Nat} (hp : ρ a.block = .hard r.block ∧ a.off = 0 ∧ a.spot = none ∧ r.off = 0 ∧ r.spot = none) : VRel ρ (.slice (some a) n c) (.slice (some r) n c) := by
  have e : r = ⟨r.block, a.off, a.spot⟩ := by
    obtain ⟨b, o, sp⟩ := r
    have q := hp.2
    simp only at q
    obtain ⟨q1, q2, q3, q4⟩ := q
    subst q3 q4
    rw [q1, q2]
  rw [e]
  exact .slHard a r.block _ _ hp.1
theorem newC_fst {s s1 : St} {cs cs' : List Value} {e : TypeId} {a : Addr} (h : newC s cs e = some (a, s1)) (P : Program) :
    Simu P s s1 (fun ρ x => ARel ρ ⟨cs⟩ x) (fun x => newRow e x) (fun ρ a' => ρ a.block = .hard a'.block ∧ a.off = 0 ∧ a.spot = none ∧ a'.off = 0 ∧ a'.spot = none) := newC_ok P h
theorem buildSlice_ok (P : Program) (ev : Operand → Value) {o : Oper} {t : TypeId} {len : Nat} {parts : Array (Nat × Operand)} {s s1 : St} {n : NextC} (ho : o.op = .buildSlice t len parts) (h : buildSliceC P t len (parts.map fun p => (p.1, ev p.2)) s = some (n, s1)) : OpOk P ev o s s1 n := by
  have hops : ∀ {ρ ev'}, EvR ρ ev o.op ev' → QRel ρ (parts.map fun p => (p.1, ev p.2)).toList (parts.map fun p => (p.1, ev' p.2)).toList := fun he =>
    parts_rel parts fun p hp => he p.2 (by
      rw [ho]
      simp only [Op.operands]
      simp
      exact ⟨p.1, hp⟩)
  unfold buildSliceC at h
  split at h
  · rename_i elem hd
    split at h
    · rename_i ie hie
      split at h
      · rename_i z hz
        split at h
        · cases h
        · rename_i hle
          split at h
          · rename_i hg
            split at h
            · rename_i cells hfill
              split at h
              · rename_i a s2 hn
                injection h with h; injection h with h1 h2
                subst h1 h2
                -- what the model's fill makes of the parts at hand
                let G : (Operand → Value) → Array Value := fun ev' => (Instr.fill (fun i => some (i * ie.size, ie.size)) (rowCells (len * ie.size) z) (parts.map fun p => (p.1, ev' p.2)).toList).getD #[]
                have hG : ∀ {ρ ev'}, EvR ρ ev o.op ev' → Instr.fill (fun i => some (i * ie.size, ie.size)) (rowCells (len * ie.size) z) (parts.map fun p => (p.1, ev' p.2)).toList = some (G ev') ∧ ARel ρ cells (G ev') := fun {ρ ev'} he => by
                  obtain ⟨r', hr', hrel⟩ := fill_rel _ _ _ _ _ _ (hops he) (ARel.ground hg) hfill
                  have : G ev' = r' := by simp only [G]; rw [hr']; rfl
                  rw [this]
                  exact ⟨hr', hrel⟩
                refine (newC_ok P hn).use G (fun _ a' => .value (.slice (some a') len len)) (fun ρ ev' he => (hG he).2) (fun ρ w ev' he => ?_) (fun ρ ρ1 ev' r _ _ hp => .val _ _ (hard_slice hp))
                have hf := (hG he).1
                simp only [execOp, ho, Instr.buildSlice]
                rw [Sem.run_bind, Sem.run_bind, run_underlying_of hd, Result.andThen_ok]
                simp only [Sem.run_bind, run_sizeOf_of hie, Result.andThen_ok, if_neg hle]
                unfold rowCells at hf
                by_cases h0 : len * ie.size = 0
                · simp only [h0, if_true, Sem.run_bind, Sem.run_pure, Result.andThen_ok, andThen_assoc] at hf ⊢
                  rw [hf]
                  simp only [Sem.run_bind, Sem.run_pure, andThen_assoc, Result.andThen_ok]
                · simp only [h0, if_false, Sem.run_bind, run_zeroValue_of hie hz, Sem.run_pure, Result.andThen_ok, andThen_assoc] at hf ⊢
                  rw [hf]
                  simp only [Sem.run_bind, Sem.run_pure, andThen_assoc, Result.andThen_ok]
              · cases h
            · cases h
          · cases h
      · cases h
    · cases h
  · cases h
end Go.Canon
