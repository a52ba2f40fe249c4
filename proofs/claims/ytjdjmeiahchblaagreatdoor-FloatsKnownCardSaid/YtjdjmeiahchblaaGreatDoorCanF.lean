/-
  More operations: nil, function values, interfaces, parts of structs, lengths, made slices, slices of slices.
-/
import Derived.Test.YtjdjmeiahchblaaGreatDoorCanE
namespace Go.Canon

def binOpC (P : Program) (op : BinOp) (t : TypeId) (x y : Value) : Option Value :=
  match P.underlying t with
  | some d => match nilEq d x y with
    | some b => match op with
      | .eql => some (.bool b)
      | .neq => some (.bool !b)
      | _ => none
    | none => none
  | none => none
def plainV : Value → Bool
  | .int .. | .float .. | .complex .. | .string _ => true
  | _ => false
theorem binOp_eql (t : TypeId) (x y : Value) (h : plainV x = false) : binOp .eql t x y = (do pure (.bool (← Op.equal t x y))) := by
  cases x <;> first | (simp [plainV] at h; done) | (cases y <;> rfl)
theorem binOp_neq (t : TypeId) (x y : Value) (h : plainV x = false) : binOp .neq t x y = (do pure (.bool (!(← Op.equal t x y)))) := by
  cases x <;> first | (simp [plainV] at h; done) | (cases y <;> rfl)
theorem nilEq_kind {d : TypeDesc} {x y : Value} {b : Bool} (h : nilEq d x y = some b) {ρ : Map} {x' : Value} (hx : VRel ρ x x') : plainV x' = false := by
  unfold nilEq at h
  split at h <;> first | (cases h; done) | (cases hx <;> rfl)
theorem binOp_ok (P : Program) (ev : Operand → Value) {o : Oper} {op : BinOp} {t u : TypeId} {x y : Operand} (s : St) {v : Value} (ho : o.op = .binOp op t x y u) (h : binOpC P op t (ev x) (ev y) = some v) : OpOk P ev o s s (.val v) := by
  unfold binOpC at h
  split at h
  · rename_i d hd
    split at h
    · rename_i b hb
      refine Simu.still fun ρ w ev' he => ?_
      have h1 := he x (by simp [ho, Op.operands])
      have h2 := he y (by simp [ho, Op.operands])
      obtain ⟨r1, r2⟩ := nilEq_run P hd h1 h2 hb w
      have hk := nilEq_kind hb h1
      split at h
      · injection h with h
        subst h
        refine ⟨.value (.bool b), ?_, .val _ _ (.bool b)⟩
        simp only [execOp, ho]
        rw [Sem.run_bind, Sem.run_bind, r2, Result.andThen_ok, binOp_eql _ _ _ hk, Sem.run_bind, r1]
        rfl
      · injection h with h
        subst h
        refine ⟨.value (.bool !b), ?_, .val _ _ (.bool !b)⟩
        simp only [execOp, ho]
        rw [Sem.run_bind, Sem.run_bind, r2, Result.andThen_ok, binOp_neq _ _ _ hk, Sem.run_bind, r1]
        rfl
      · cases h
    · cases h
  · cases h

def makeFuncC (ev : Operand → Value) (fn : Fn) (first cap : Array Operand) : Option Value :=
  match fn with
  | .func f => some (.func (.func f) (first.map ev) (cap.map ev))
  | _ => none
theorem makeFunc_ok (P : Program) (ev : Operand → Value) {o : Oper} {fn : Fn} {first cap : Array Operand} (s : St) {v : Value} (ho : o.op = .makeFunc fn first cap) (h : makeFuncC ev fn first cap = some v) : OpOk P ev o s s (.val v) := by
  unfold makeFuncC at h
  split at h
  · rename_i f
    injection h with h
    subst h
    refine Simu.still fun ρ w ev' he => ⟨.value (.func (.func f) (first.map ev') (cap.map ev')), by simp [execOp, ho, Instr.makeFunc], ?_⟩
    have a1 := ARel.map (ρ := ρ) first ev ev' fun z hz => he z (by simp [ho, Op.operands, hz])
    have a2 := ARel.map (ρ := ρ) cap ev ev' fun z hz => he z (by simp [ho, Op.operands, hz])
    exact .val _ _ (.func f _ _ _ _ a1.1 a1.2 a2.1 a2.2)
  · cases h

def notIface : TypeDesc → Bool
  | .interface _ => false
  | _ => true
def makeIfaceC (P : Program) (t : TypeId) (v : Value) : Option Value :=
  match P.underlying t with
  | some d => if notIface d then some (.iface t v) else none
  | none => none
theorem makeIface_ok (P : Program) (ev : Operand → Value) {o : Oper} {t : TypeId} {x : Operand} (s : St) {v : Value} (ho : o.op = .makeInterface t x) (h : makeIfaceC P t (ev x) = some v) : OpOk P ev o s s (.val v) := by
  unfold makeIfaceC at h
  split at h
  · rename_i d hd
    split at h
    · rename_i hn
      injection h with h
      subst h
      refine Simu.still fun ρ w ev' he => ⟨.value (.iface t (ev' x)), ?_, .val _ _ (.iface _ _ _ (he x (by simp [ho, Op.operands])))⟩
      simp only [execOp, ho, Instr.makeInterface]
      rw [Sem.run_bind, Sem.run_bind, run_underlying_of hd, Result.andThen_ok]
      cases d <;> first | rfl | (simp [notIface] at hn)
    · cases h
  · cases h

/-! parts of structs and arrays that are values -/
def partC (P : Program) (t : TypeId) (cs : Array Value) (off : Nat) : Option Value :=
  match P.underlying t with
  | some d => if aggD d then match P.info? t with
      | some i => some (.agg (cs.extract off (off + i.size)))
      | none => none
    else cs[off]?
  | none => none
theorem ARel.extract {ρ : Map} {x x' : Array Value} (h : ARel ρ x x') (a b : Nat) : ARel ρ (x.extract a b) (x'.extract a b) := by
  refine ⟨by simp [h.1], fun i h1 h2 => ?_⟩
  simp only [Array.getElem_extract]
  exact h.2 _ _ _
theorem partC_ok {P : Program} {t : TypeId} {cs cs' : Array Value} {off : Nat} {v : Value} {ρ : Map} (h : partC P t cs off = some v) (hr : ARel ρ cs cs') (w : World) : ∃ v', (part t cs' off).run P w = .ok v' w ∧ VRel ρ v v' := by
  unfold partC at h
  unfold part
  split at h
  · rename_i d hd
    split at h
    · rename_i ha
      split at h
      · rename_i i hi
        injection h with h
        subst h
        refine ⟨.agg (cs'.extract off (off + i.size)), ?_, .agg_of (hr.extract _ _)⟩
        simp [run_isAgg_of hd, ha, run_sizeOf_of hi]
      · cases h
    · rename_i ha
      obtain ⟨v', e1, e2⟩ := hr.prel off v (by rw [Array.getElem?_toList]; exact h)
      refine ⟨v', ?_, e2⟩
      simp [run_isAgg_of hd, ha, e1]
  · cases h
def fieldC (P : Program) (t : TypeId) (v : Value) (f : Nat) : Option Value :=
  match v with
  | .agg cs => match P.underlying t with
    | some (.struct fields) => match fields[f]? with
      | some fd => partC P fd.type cs fd.offset
      | none => none
    | _ => none
  | _ => none
theorem field_ok (P : Program) (ev : Operand → Value) {o : Oper} {t : TypeId} {x : Operand} {f : Nat} (s : St) {v : Value} (ho : o.op = .field t x f) (h : fieldC P t (ev x) f = some v) : OpOk P ev o s s (.val v) := by
  unfold fieldC at h
  split at h
  · rename_i cs hx
    split at h
    · rename_i fields hd
      split at h
      · rename_i fd hf
        refine Simu.still fun ρ w ev' he => ?_
        have h1 := he x (by simp [ho, Op.operands])
        rw [hx] at h1
        obtain ⟨x', e, hr⟩ := h1.agg_inv
        obtain ⟨v', e1, e2⟩ := partC_ok h hr w
        refine ⟨.value v', ?_, .val _ _ e2⟩
        simp [execOp, ho, Instr.field, run_underlying_of hd, hf, e, asAgg, e1]
      · cases h
    · cases h
  · cases h

def pickC (c a b : Value) : Option Value :=
  match c with
  | .bool true => some a
  | .bool false => some b
  | _ => none
theorem pick_ok (P : Program) (ev : Operand → Value) {o : Oper} {c a b : Operand} (s : St) {v : Value} (ho : o.op = .pick c a b) (h : pickC (ev c) (ev a) (ev b) = some v) : OpOk P ev o s s (.val v) := by
  unfold pickC at h
  split at h
  · rename_i hx
    injection h with h
    subst h
    refine Simu.still fun ρ w ev' he => ?_
    have h1 := he c (by simp [ho, Op.operands])
    rw [hx] at h1
    exact ⟨.value (ev' a), by simp [execOp, ho, h1.bool_inv, asBool], .val _ _ (he a (by simp [ho, Op.operands]))⟩
  · rename_i hx
    injection h with h
    subst h
    refine Simu.still fun ρ w ev' he => ?_
    have h1 := he c (by simp [ho, Op.operands])
    rw [hx] at h1
    exact ⟨.value (ev' b), by simp [execOp, ho, h1.bool_inv, asBool], .val _ _ (he b (by simp [ho, Op.operands]))⟩
  · cases h

/-! the length of a slice -/
def lenC (P : Program) (ev : Operand → Value) (c : Call) : Option Value :=
  match c.callee with
  | .builtin .len => match c.argTypes[0]?, c.args[0]? with
    | some t, some x => match P.underlying t, ev x with
      | some (.slice _), .slice _ n _ => some (.int .i64 n)
      | _, _ => none
    | _, _ => none
  | _ => none
theorem VRel.slice_len {ρ : Map} {b : Option Addr} {n c : Nat} {v : Value} (h : VRel ρ (.slice b n c) v) : ∃ b' c', v = .slice b' n c' := by
  cases h <;> exact ⟨_, _, rfl⟩
theorem len_ok (P : Program) (ev : Operand → Value) {o : Oper} {c : Call} (s : St) {v : Value} (ho : o.op = .call c) (h : lenC P ev c = some v) : OpOk P ev o s s (.val v) := by
  unfold lenC at h
  split at h
  · rename_i hc
    split at h
    · rename_i t x ht hx
      split at h
      · rename_i e b n k hd hv
        injection h with h
        subst h
        refine Simu.still fun ρ w ev' he => ?_
        have hm : x ∈ c.args := Array.mem_of_getElem? hx
        have h1 := he x (by simp [ho, Op.operands, Call.operands, hm])
        rw [hv] at h1
        obtain ⟨b', k', e1⟩ := h1.slice_len
        refine ⟨.value (.int .i64 n), ?_, .val _ _ (.int _ _)⟩
        simp [execOp, ho, resolve, hc, invoke, builtin, Builtin.len_, ht, hx, run_underlying_of hd, e1, goInt]
      · cases h
    · cases h
  · cases h

/-! made slices -/
def intOfV : Value → Option Int
  | .int _ n => some n
  | _ => none
def rowCells (n : Nat) (z : Value) : Array Value := (Array.range n).map ((if n = 0 then #[] else z.cells)[· % (if n = 0 then #[] else z.cells).size]!)
def makeSliceC (P : Program) (t : TypeId) (len cap : Value) (s : St) : Option (NextC × St) :=
  match P.underlying t, intOfV len, intOfV cap with
  | some (.slice elem), some len, some cap => match P.info? elem with
    | some ei => match ei.zero with
      | some z =>
        let l := IntKind.i64.wrap len
        let c := IntKind.i64.wrap cap
        if c < 0 || (ei.bytes : Int) * c > 2 ^ 48 || l < 0 || l > c then none else
        let cells : Array Value := rowCells (c.toNat * ei.size) z
        if cells.toList.all (ground 9) then match newC s cells.toList elem with
          | some (a, s1) => some (.val (.slice (some a) l.toNat c.toNat), s1)
          | none => none
        else none
      | none => none
    | none => none
  | _, _, _ => none
theorem intOfV_inv {ρ : Map} {v v' : Value} {n : Int} (h : intOfV v = some n) (hr : VRel ρ v v') (P : Program) (w : World) : (asInt v').run P w = .ok n w := by
  cases hr <;> first | (cases h; done) | (simp only [intOfV] at h; injection h with h; subst h; rfl)
theorem ARel.ground {ρ : Map} {x : Array Value} (h : x.toList.all (ground 9) = true) : ARel ρ x x := ⟨rfl, fun i h1 _ => ground_rel 9 _ (ground_all h i h1) ρ⟩
theorem makeSlice_ok (P : Program) (ev : Operand → Value) {o : Oper} {t : TypeId} {x y : Operand} {s s1 : St} {n : NextC} (ho : o.op = .makeSlice t x y) (h : makeSliceC P t (ev x) (ev y) s = some (n, s1)) : OpOk P ev o s s1 n := by
  unfold makeSliceC at h
  split at h
  · rename_i elem len cap hd hl hc
    split at h
    · rename_i ei hi
      split at h
      · rename_i z hz
        dsimp only at h
        split at h
        · cases h
        · rename_i hno
          split at h
          · rename_i hg
            split at h
            · rename_i a s2 hn
              injection h with h; injection h with h1 h2
              subst h1 h2
              refine (newC_ok P hn).use (fun _ => _) (fun _ a' => .value (.slice (some a') (IntKind.i64.wrap len).toNat (IntKind.i64.wrap cap).toNat)) (fun ρ ev' _ => ARel.ground hg) (fun ρ w ev' he => ?_) (fun ρ ρ1 ev' r _ _ hp => .val _ _ ?_)
              · have e1 := intOfV_inv hl (he x (by simp [ho, Op.operands])) P w
                have e2 := intOfV_inv hc (he y (by simp [ho, Op.operands])) P w
                simp only [Bool.or_eq_true, decide_eq_true_eq, not_or] at hno
                obtain ⟨⟨⟨n1, n2⟩, n3⟩, n4⟩ := hno
                have n5 : (decide (IntKind.i64.wrap cap < 0) || decide ((ei.bytes : Int) * IntKind.i64.wrap cap > 2 ^ 48) || decide (IntKind.i64.wrap len < 0) || decide (IntKind.i64.wrap len > IntKind.i64.wrap cap)) = false := by rw [decide_eq_false n1, decide_eq_false n2, decide_eq_false n3, decide_eq_false n4]; rfl
                simp only [execOp, ho, Instr.makeSlice]
                rw [Sem.run_bind, Sem.run_bind, run_underlying_of hd, Result.andThen_ok]
                simp only [Sem.run_bind, e1, e2, Result.andThen_ok, run_typeInfo_of hi, n5, Bool.false_eq_true, if_false, run_askRoom, run_sizeOf_of hi]
                unfold rowCells
                by_cases h0 : (IntKind.i64.wrap cap).toNat * ei.size = 0
                · simp only [h0, if_true, Sem.run_bind, Sem.run_pure, Result.andThen_ok, andThen_assoc]
                · simp only [h0, if_false, Sem.run_bind, run_zeroValue_of hi hz, Sem.run_pure, Result.andThen_ok, andThen_assoc]
              · have e : r = ⟨r.block, a.off, a.spot⟩ := by
                  obtain ⟨b, o, sp⟩ := r
                  have q := hp.2
                  simp only at q
                  obtain ⟨q1, q2, q3, q4⟩ := q
                  subst q3 q4
                  rw [q1, q2]
                rw [e]
                exact .slHard a r.block _ _ hp.1
            · cases h
          · cases h
      · cases h
    · cases h
  · cases h

/-! slices of slices -/
def boundV : Option Value → Option (Option Int)
  | none => some none
  | some (.int _ n) => some (some n)
  | _ => none
def softOf (s : St) (b : Nat) : Option Nat :=
  if b < s.n then match s.t.get b with
    | some (.cells _ _ sf) => some sf
    | _ => none
  else none
def sliceC (P : Program) (t : TypeId) (x : Value) (lo hi mx : Option Value) (s : St) : Option (NextC × St) :=
  match P.underlying t, x, boundV lo, boundV hi, mx with
  | some (.slice elem), .slice (some a) len cap, some lo, some hi, none => match P.info? elem, softOf s a.block with
    | some ei, some sf =>
      if 0 ≤ lo.getD 0 && lo.getD 0 ≤ hi.getD len && hi.getD len ≤ cap && 0 ≤ hi.getD len && (sf == 0 || sf == ei.size + 1) then
        if (lo.getD 0).toNat = cap && (lo.getD 0).toNat * ei.size != 0 then none
        else some (.val (.slice (some (a.add ((lo.getD 0).toNat * ei.size))) ((hi.getD len).toNat - (lo.getD 0).toNat) (cap - (lo.getD 0).toNat)), s.rd a.block)
      else none
    | _, _ => none
  | _, _, _, _, _ => none
theorem softOf_at {s : St} {b sf : Nat} (h : softOf s b = some sf) {ρ : Map} {w : World} (hat : b < s.n → At ρ w b (s.t.get b)) :
    (sf = 0 ∧ ∃ b', ρ b = .hard b') ∨ ∃ b' m es, ρ b = .soft b' m es ∧ sf = es + 1 := by
  unfold softOf at h
  split at h
  · rename_i hlt
    have hA := hat hlt
    split at h
    · rename_i c e sf' hg
      injection h with h
      subst h
      rw [hg] at hA
      cases hA with
      | hard _ _ b' c' h1 h2 h3 h4 => exact .inl ⟨rfl, b', h1⟩
      | soft _ _ es b' c' h1 h2 h4 => exact .inr ⟨b', _, es, h1, rfl⟩
    · cases h
  · cases h
theorem boundV_inv {ρ : Map} {P : Program} {v v' : Option Value} {b : Option Int} (h : boundV v = some b) (hr : ∀ x, v = some x → ∃ x', v' = some x' ∧ VRel ρ x x') (hn : v = none → v' = none) : (b = none ∧ v' = none) ∨ ∃ k i, b = some i ∧ v' = some (.int k i) := by
  unfold boundV at h
  split at h
  · injection h with h; subst h; exact .inl ⟨rfl, hn rfl⟩
  · rename_i k n
    injection h with h; subst h
    obtain ⟨x', e, hx⟩ := hr _ rfl
    exact .inr ⟨k, n, rfl, by rw [e, hx.int_inv]⟩
  · cases h
theorem run_bound (P : Program) (w : World) (k : IntKind) (i : Int) (y : Nat) (code : BoundsCode) (h0 : 0 ≤ i) (h1 : i ≤ y) : (Instr.sliceBound (.int k i) y code).run P w = .ok i.toNat w := by
  simp [Instr.sliceBound, asIntOf, h0, h1]
theorem slice_ok (P : Program) (ev : Operand → Value) {o : Oper} {t : TypeId} {x : Operand} {lo hi mx : Option Operand} {s s1 : St} {n : NextC} (ho : o.op = .slice t x lo hi mx) (h : sliceC P t (ev x) (lo.map ev) (hi.map ev) (mx.map ev) s = some (n, s1)) : OpOk P ev o s s1 n := by
  unfold sliceC at h
  split at h
  · rename_i elem a len cap lo' hi' hd hx hlo hhi hmx
    split at h
    · rename_i ei sf hei hsf
      split at h
      · rename_i hb
        simp only [Bool.and_eq_true, Bool.or_eq_true, beq_iff_eq, decide_eq_true_eq] at hb
        obtain ⟨⟨⟨⟨b1, b2⟩, b3⟩, b4⟩, b5⟩ := hb
        split at h
        · cases h
        · rename_i hne
          injection h with h; injection h with h h'
          subst h h'
          refine moves_rd s a.block fun ρ w ev' he hat _ => ?_
          have hsoft := softOf_at hsf hat
          have h1 := he x (by simp [ho, Op.operands])
          rw [hx] at h1
          have hm : mx = none := by cases mx with
            | none => rfl
            | some _ => simp at hmx
          subst hm
          have opt : ∀ (z : Option Operand), (∀ y, z = some y → y ∈ o.op.operands) → ∀ q, z.map ev = some q → ∃ q', z.map ev' = some q' ∧ VRel ρ q q' := by
            intro z hz q hq
            cases z with
            | none => cases hq
            | some y =>
              simp only [Option.map_some, Option.some.injEq] at hq
              subst hq
              exact ⟨ev' y, rfl, he y (hz y rfl)⟩
          have non : ∀ (z : Option Operand), z.map ev = none → z.map ev' = none := by
            intro z hz
            cases z with
            | none => rfl
            | some y => cases hz
          have k1 := boundV_inv (P := P) hlo (opt lo (fun y hy => by simp [ho, Op.operands, hy])) (non lo)
          have k2 := boundV_inv (P := P) hhi (opt hi (fun y hy => by simp [ho, Op.operands, hy])) (non hi)
          -- the model's bounds, at whatever capacity is not less
          have hbounds : ∀ c' : Nat, cap ≤ c' → (Instr.sliceBounds true len c' (lo.map ev') (hi.map ev') (Option.map ev' none)).run P w = .ok ((lo'.getD 0).toNat, (hi'.getD len).toNat, c') w := by
            intro c' hc
            unfold Instr.sliceBounds
            simp only [Option.map_none, Sem.run_bind, Sem.run_pure, Result.andThen_ok, Option.isSome_none, Bool.false_eq_true, if_false, if_true]
            rcases k2 with ⟨e1, e2⟩ | ⟨kk, i, e1, e2⟩
            · subst e1
              rw [e2]
              simp only [Option.getD_none] at b2 b3 b4 ⊢
              try simp only [Sem.run_bind, Sem.run_pure, Result.andThen_ok]
              rcases k1 with ⟨f1, f2⟩ | ⟨kk, j, f1, f2⟩
              · subst f1; rw [f2]; simp
              · subst f1
                rw [f2]
                simp only [Option.getD_some] at b1 b2 ⊢
                simp only [Sem.run_bind, run_bound P w kk j len _ b1 b2, Result.andThen_ok]
                simp
            · subst e1
              rw [e2]
              simp only [Option.getD_some] at b2 b3 b4 ⊢
              have hi2 := run_bound P w kk i c' .sliceAcap b4 (by omega)
              simp only [Sem.run_bind, hi2, Sem.run_pure, Result.andThen_ok]
              rcases k1 with ⟨f1, f2⟩ | ⟨kk2, j, f1, f2⟩
              · subst f1; rw [f2]; simp
              · subst f1
                rw [f2]
                simp only [Option.getD_some] at b1 b2 ⊢
                simp only [Sem.run_bind, run_bound P w kk2 j i.toNat _ b1 (by omega), Result.andThen_ok]
                simp
          have hlh : (lo'.getD 0).toNat ≤ (hi'.getD len).toNat := by omega
          have hhc : (hi'.getD len).toNat ≤ cap := by omega
          generalize (lo'.getD 0).toNat = l at *
          generalize (hi'.getD len).toNat = r at *
          have hrun : ∀ a' c', ev' x = .slice (some a') len c' → cap ≤ c' → (execOp ev' o).run P w = .ok (.value (.slice (some (if c' = l then a' else a'.add (l * ei.size))) (r - l) (c' - l))) w := by
            intro a' c' e hc
            simp only [execOp, ho, Instr.sliceAt]
            rw [Sem.run_bind, Sem.run_bind, run_underlying_of hd, Result.andThen_ok]
            simp only [Instr.slice]
            rw [Sem.run_bind, run_underlying_of hd, Result.andThen_ok, e]
            simp only [Sem.run_bind, hbounds c' hc, Result.andThen_ok, run_sizeOf_of hei, Sem.run_pure]
            split <;> rfl
          have hadd : ∀ (c' : Nat) (a' : Addr), cap ≤ c' → (if c' = l then a' else a'.add (l * ei.size)) = a'.add (l * ei.size) := by
            intro c' a' hc
            split
            · rename_i e
              have hl : l = cap := by omega
              have : l * ei.size = 0 := by
                apply Classical.byContradiction
                intro h0
                exact hne (by simp [hl, h0]; rw [← hl]; exact fun q => h0 q)
              rw [this]; simp [Addr.add]
            · rfl
          have off : ∀ (q : Addr), (q.add (l * ei.size)).off = q.off + l * ei.size ∧ (q.add (l * ei.size)).block = q.block := by
            intro q
            unfold Addr.add
            split
            · rename_i e; exact ⟨by rw [e]; rfl, rfl⟩
            · exact ⟨rfl, rfl⟩
          generalize hq : ev' x = q at h1 hrun
          cases h1 with
          | slHard _ b' _ _ e1 =>
            refine ⟨_, hrun _ cap rfl (Nat.le_refl _), .val _ _ ?_⟩
            rw [hadd _ _ (Nat.le_refl _)]
            have hA : AdR ρ a ⟨b', a.off, a.spot⟩ := .inl ⟨by rw [e1]; rfl, rfl, rfl⟩
            have hB := hA.add (l * ei.size)
            have e2 : ρ (a.add (l * ei.size)).block = .hard b' := by rw [(off a).2]; exact e1
            rcases hB with ⟨h1, h2, h3⟩ | h1
            · generalize (⟨b', a.off, a.spot⟩ : Addr).add (l * ei.size) = z at h1 h2 h3
              obtain ⟨zb, zo, zs⟩ := z
              simp only at h1 h2 h3
              rw [e2] at h1
              injection h1 with h1
              subst h1 h2 h3
              exact .slHard _ b' _ _ e2
            · rw [e2] at h1; cases h1
          | slSoft _ b' m es _ _ c' e1 e2 e3 =>
            refine ⟨_, hrun _ c' rfl e2, .val _ _ ?_⟩
            rw [hadd _ _ e2]
            have hA : AdR ρ a ⟨b', a.off, a.spot⟩ := .inl ⟨by rw [e1]; rfl, rfl, rfl⟩
            have hB := hA.add (l * ei.size)
            have e4 : ρ (a.add (l * ei.size)).block = .soft b' m es := by rw [(off a).2]; exact e1
            have hes : es = ei.size := by
              rcases hsoft with ⟨_, b2', q⟩ | ⟨b2', m2, es2, q, q2⟩
              · rw [e1] at q; cases q
              · rw [e1] at q; injection q with q1 q2' q3; rcases b5 with b5 | b5 <;> omega
            have hval : (a.add (l * ei.size)).off + (c' - l) * es ≤ m := by
              rw [(off a).1, hes]
              rw [hes] at e3
              have : l * ei.size + (c' - l) * ei.size = c' * ei.size := by rw [← Nat.add_mul]; congr 1; omega
              omega
            rcases hB with ⟨h1, h2, h3⟩ | h1
            · generalize (⟨b', a.off, a.spot⟩ : Addr).add (l * ei.size) = z at h1 h2 h3
              obtain ⟨zb, zo, zs⟩ := z
              simp only at h1 h2 h3
              rw [e4] at h1
              injection h1 with h1
              subst h1 h2 h3
              exact .slSoft _ b' m es _ _ _ e4 (by omega) hval
            · rw [e4] at h1; cases h1
          | slDead _ a' _ _ c' e1 =>
            rcases hsoft with ⟨_, b2', q⟩ | ⟨b2', m2, es2, q, q2⟩ <;> (rw [e1] at q; cases q)
      · cases h
    · cases h
  · cases h
end Go.Canon
