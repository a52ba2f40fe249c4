/-
  Append and bytes to a string as operations; the loops over functions.
-/
import Derived.Test.YtjdjmeiahchblaaGreatDoorCanI
namespace Go.Canon

theorem append_ok (P : Program) (ev : Operand → Value) {o : Oper} {c : Call} {s s1 : St} {n : NextC} (ho : o.op = .call c) (h : appendC P ev c s = some (n, s1)) : OpOk P ev o s s1 n := by
  unfold appendC at h
  split at h
  · rename_i hc
    split at h
    · rename_i t tx x y ht htx hx hy
      have hm1 : x ∈ o.op.operands := by simp [ho, Op.operands, Call.operands, Array.mem_of_getElem? hx]
      have hm2 : y ∈ o.op.operands := by simp [ho, Op.operands, Call.operands, Array.mem_of_getElem? hy]
      split at h
      · rename_i elem dx base sLen sCap k hd hdx hvx hln
        split at h
        · cases h
        · rename_i hi
          have hi : intD dx = false := by simpa using hi
          have fin : ∀ {s1 : St} {v : Value}, Simu P s s1 (fun ρ (q : Array TypeId × Array Value) => q.1[0]? = some t ∧ q.1[1]? = some tx ∧ (∃ x', q.2[0]? = some x' ∧ VRel ρ (.slice base sLen sCap) x') ∧ ∃ y', q.2[1]? = some y' ∧ VRel ρ (ev y) y') (fun q => Builtin.append_ q.1 0 q.2) (fun ρ r => VRel ρ v r) → OpOk P ev o s s1 (.val v) := by
            intro s1 v hs
            refine hs.use (fun ev' => (c.argTypes, c.args.map ev')) (fun _ r => .value r) (fun ρ ev' he => ⟨ht, htx, ⟨ev' x, by simp [hx], hvx ▸ he x hm1⟩, ev' y, by simp [hy], he y hm2⟩) (fun ρ w ev' he => ?_) (fun ρ ρ1 ev' r _ _ hp => .val _ _ hp)
            simp only [execOp, ho, resolve, hc, Sem.run_bind, Sem.run_pure, Result.andThen_ok, invoke, builtin]
            rfl
          split at h
          · rename_i ie hie
            split at h
            · rename_i new s2 hf
              split at h
              · rename_i hle
                have : ∃ v, n = .val v := by
                  split at h
                  · injection h with h; injection h with h1 h2; exact ⟨_, h1.symm⟩
                  · split at h
                    · split at h
                      · injection h with h; injection h with h1 h2; exact ⟨_, h1.symm⟩
                      · cases h
                    · cases h
                obtain ⟨v, rfl⟩ := this
                exact fin (append_place_ok P hd hdx hi hie hln hf hle h)
              · rename_i hle
                split at h
                · rename_i z hz
                  split at h
                  · rename_i hcond
                    obtain ⟨c1, c2, c3, c4⟩ := hcond
                    split at h
                    · rename_i old s3 hg
                      have : ∃ v, n = .val v := by
                        split at h
                        · injection h with h; injection h with h1 h2; exact ⟨_, h1.symm⟩
                        · split at h
                          · injection h with h; injection h with h1 h2; exact ⟨_, h1.symm⟩
                          · split at h
                            · injection h with h; injection h with h1 h2; exact ⟨_, h1.symm⟩
                            · cases h
                          · cases h
                      obtain ⟨v, rfl⟩ := this
                      exact fin (append_grow_ok P hd hdx hi hie hln hz hf hle c1 c2 c3 c4 hg h)
                    · cases h
                  · cases h
                · cases h
            · cases h
          · cases h
      · cases h
    · cases h
  · cases h

/-! bytes to a string -/
def restB (cells : Array Value) : Sem Value := do
  let mut s := ByteArray.empty
  for c in cells do
    let .int .u8 n := c | stuck "bytesToString: byte expected"
    s := s.push (UInt8.ofNat n.toNat)
  pure (.string s)
theorem bytesToString_eq (a : Addr) (len cap : Nat) : Conv.bytesToString (.slice (some a) len cap) = (loadCells a len >>= restB) := rfl
def convC (P : Program) (src dst : TypeId) (x : Value) (s : St) : Option (NextC × St) :=
  match P.underlying src, P.underlying dst, x with
  | some (.slice e), some .string, .slice (some a) len _ => match P.underlying e with
    | some (.int .u8) => match ldCs s a len with
      | some (l, s1) => if l.all (ground 9) then match pureS P (restB ⟨l⟩) with
          | some v => if ground 9 v then some (.val v, s1) else none
          | none => none
        else none
      | none => none
    | _ => none
  | _, _, _ => none
theorem conv_ok (P : Program) (ev : Operand → Value) {o : Oper} {src dst : TypeId} {x : Operand} {s s1 : St} {n : NextC} (ho : o.op = .convert src dst x) (h : convC P src dst (ev x) s = some (n, s1)) : OpOk P ev o s s1 n := by
  unfold convC at h
  split at h
  · rename_i e a len cap hd1 hd2 hx
    split at h
    · rename_i he
      split at h
      · rename_i l s2 hl
        split at h
        · rename_i hg
          split at h
          · rename_i v hv
            split at h
            · rename_i hgv
              injection h with h; injection h with h1 h2
              subst h1 h2
              have inv : ∀ ρ ev', EvR ρ ev o.op ev' → ∃ a' c', ev' x = .slice (some a') len c' ∧ AdR ρ a a' := fun ρ ev' he => by
                have h1 := he x (by simp [ho, Op.operands])
                rw [hx] at h1
                obtain ⟨a', c', e, hr⟩ := h1.slice_inv
                exact ⟨a', c', e, hr⟩
              have hb : Simu P s s2 (fun ρ ev' => EvR ρ ev o.op ev') (fun ev' => (loadCells (getA (ev' x)) len >>= restB)) (fun ρ r => VRel ρ v r) := by
                refine Simu.bind (k := fun _ cells => restB cells) ((ldCs_ok P hl).map (γ := Operand → Value) (fun ev' => getA (ev' x)) (fun ρ ev' he => ?_)) (fun ρ ρ1 x hl he => he.mono hl) (Simu.still fun ρ w q hq => ?_)
                · obtain ⟨a', c', e, hr⟩ := inv ρ ev' he
                  rw [e]; exact hr
                · have : q.2 = ⟨l⟩ := by
                    have h2 := hq.2
                    apply Array.ext h2.1.symm
                    intro i i1 i2
                    exact ground_eq 9 _ (ground_all (cs := ⟨l⟩) (by simpa using hg) i i2) ρ _ (h2.2 i i2 i1)
                  rw [this]
                  exact ⟨v, pureS_run P w _ _ hv, ground_rel 9 v hgv ρ⟩
              refine hb.use id (fun _ r => .value r) (fun _ _ h => h) (fun ρ w ev' hev => ?_) (fun ρ ρ1 ev' r _ _ hp => .val _ _ hp)
              obtain ⟨a', c', e1, hr⟩ := inv ρ ev' hev
              simp only [execOp, ho, id]
              rw [e1]
              simp only [convert, Sem.run_bind, run_underlying_of hd1, run_underlying_of hd2, run_underlying_of he, Result.andThen_ok, bytesToString_eq, andThen_assoc, getA, Sem.run_pure]
            · cases h
          · cases h
        · cases h
      · cases h
    · cases h
  · cases h

/-! a string to bytes -/
def strBytesC (P : Program) (src dst : TypeId) (x : Value) (s : St) : Option (NextC × St) :=
  match P.underlying src, P.underlying dst, x with
  | some _, some (.slice e), .string b => match P.underlying e with
    | some (.int .u8) => if s.n + 1 < 2 ^ 40 then some (.val (.slice (some ⟨s.n, 0, none⟩) b.size b.size), s.add (.ro (b.data.toList.map fun x => .int .u8 x.toNat))) else none
    | _ => none
  | _, _, _ => none
theorem strBytes_ok (P : Program) (ev : Operand → Value) {o : Oper} {src dst : TypeId} {x : Operand} {s s1 : St} {n : NextC} (ho : o.op = .convert src dst x) (h : strBytesC P src dst (ev x) s = some (n, s1)) : OpOk P ev o s s1 n := by
  unfold strBytesC at h
  split at h
  · rename_i d e b hd1 hd2 hx
    split at h
    · rename_i he
      split at h
      · rename_i hn
        injection h with h; injection h with h1 h2
        subst h1 h2
        refine ⟨St.add_mono _ _ hn, fun F hF ρ w ev' hf hi hev => ?_⟩
        have h1 := hev x (by simp [ho, Op.operands])
        rw [hx] at h1
        have e1 := h1.string_inv
        obtain ⟨cap, hcap⟩ : ∃ cap, cap = b.size + w.tape w.drawn (.appendCap b.size 0 e) % (2 ^ 63 - b.size) := ⟨_, rfl⟩
        obtain ⟨cs, hcs⟩ : ∃ cs : Array Value, cs = b.data.map (fun x => Value.int .u8 x.toNat) ++ Array.replicate (cap - b.size) (.int .u8 0) := ⟨_, rfl⟩
        have hsz : cs.size = cap := by rw [hcs]; simp; show b.data.size + _ = _; have : b.size = b.data.size := rfl; omega
        let w1 : World := { w with drawn := w.drawn + 1, heap := w.heap.push (.cells cs e (cs.size, cs.size + 1)) }
        have hrun : (execOp ev' o).run P w = .ok (.value (.slice (some ⟨w.heap.size, 0, none⟩) b.size cap)) w1 := by
          have hfz : (({ w with drawn := w.drawn + 1, heap := w.heap.push (.cells cs e (0, 0)) } : World).freeze ⟨w.heap.size, cs.size, none⟩ 1) = w1 := by
            simp only [World.freeze, w1]
            rw [if_neg (by decide)]
            congr 1
            apply Array.ext_getElem?
            intro i
            rw [Array.getElem?_modify, Array.getElem?_push, Array.getElem?_push]
            by_cases hi2 : w.heap.size = i
            · subst hi2; simp
            · rw [if_neg hi2, if_neg (fun q => hi2 q.symm), if_neg (fun q => hi2 q.symm)]
          simp only [execOp, ho]
          rw [e1]
          simp only [convert, Sem.run_bind, run_underlying_of hd1, run_underlying_of hd2, run_underlying_of he, Result.andThen_ok, Conv.stringToBytes, run_choose, Question.forced, Question.cut, Bool.false_eq_true, if_false, ← hcap, newRow, run_newObj, Sem.run_pure, markStringish, run_shape, ← hcs]
          have hsh : (({ w with drawn := w.drawn + 1, heap := w.heap.push (.cells cs e (0, 0)) } : World).shape? w.heap.size) = some (e, cs.size) := by simp [World.shape?]
          rw [hsh]
          simp only [run_freeze, Result.andThen_ok, hfz]
        obtain ⟨j1, j2⟩ := add_any (o := .ro (b.data.toList.map fun x => .int .u8 x.toNat)) (x := .soft w.heap.size cs.size 1) (w1 := w1) hi (hf s.n (Nat.le_refl _) (by simp only [St.add]; omega)) hn rfl rfl ⟨rfl, rfl, rfl⟩
          (fun ρ1 hl he2 => .roS _ e (cs.size, cs.size + 1) 1 w.heap.size cs he2 (by simp [w1]) (by
            intro i v hv
            rw [List.getElem?_map] at hv
            obtain ⟨y, hy, rfl⟩ := Option.map_eq_some_iff.1 hv
            refine ⟨.int .u8 y.toNat, ?_, .int _ _⟩
            have hlt : i < b.data.size := by
              have := (List.getElem?_eq_some_iff.1 hy).1
              simpa using this
            rw [hcs, Array.getElem?_append_left (by simpa using hlt), Array.getElem?_map]
            rw [Array.getElem?_toList] at hy
            rw [hy]; rfl))
        refine ⟨_, w1, j1, j2, _, hrun, .val _ _ ?_⟩
        exact .slSoft ⟨s.n, 0, none⟩ w.heap.size _ 1 _ _ _ (Map.put_self _ _ _) (by omega) (by simp; omega)
      · cases h
    · cases h
  · cases h

/-! loops over functions -/
theorem TRel.put {ρ : Map} {tm : Tree Value} {sz : Nat} {a : Array Value} (h : TRel ρ tm sz a) {d : Nat} {v v' : Value} (hv : VRel ρ v v') (hd : d < sz) (h40 : d + 1 < 2 ^ 40) : TRel ρ (tm.set 40 d v) sz (a.setIfInBounds d v') := by
  refine ⟨by simp [h.1], fun t => ?_⟩
  rw [Tree.get_set 40 _ _ _ _ h40, Array.getD_eq_getD_getElem?, Array.getElem?_setIfInBounds]
  by_cases e : t = d
  · subst e
    rw [if_pos rfl, if_pos rfl, if_pos (by have := h.1; omega)]
    exact hv
  · rw [if_neg e, if_neg (fun q => e q.symm)]
    have := h.2 t
    rwa [Array.getD_eq_getD_getElem?] at this

def putMany (tm : Tree Value) (sz : Nat) : List Tmp → List Value → Option (Tree Value)
  | [], [] => some tm
  | d :: ds, v :: vs => if d < sz ∧ d + 1 < 2 ^ 40 then putMany (tm.set 40 d v) sz ds vs else none
  | _, _ => none
theorem putMany_ok {ρ : Map} {sz : Nat} : ∀ (ds : List Tmp) (vs vs' : List Value) (tm tm1 : Tree Value) (a : Array Value), TRel ρ tm sz a → LRel ρ vs vs' → putMany tm sz ds vs = some tm1 →
    ds.length = vs'.length ∧ TRel ρ tm1 sz ((ds.zip vs').foldl (fun t (p, v) => t.setIfInBounds p v) a)
  | [], [], [], tm, tm1, a, h, _, e => by
    simp only [putMany] at e; injection e with e; subst e
    exact ⟨rfl, h⟩
  | d :: ds, v :: vs, v' :: vs', tm, tm1, a, h, hv, e => by
    simp only [putMany] at e
    split at e
    · rename_i hd
      obtain ⟨h1, h2⟩ := putMany_ok ds vs vs' _ tm1 _ (h.put hv.1 hd.1 hd.2) hv.2 e
      exact ⟨by simp [h1], by simpa using h2⟩
    · cases e
  | [], _ :: _, _, _, _, _, _, _, e => by simp [putMany] at e
  | _ :: _, [], _, _, _, _, _, _, e => by simp [putMany] at e
  | _, [], _ :: _, _, _, _, _, hv, _ => hv.elim
  | _, _ :: _, [], _, _, _, _, hv, _ => hv.elim

def loopAt (s : St) (l : Nat) : Option (LoopState × Option Code × FuncId × Tree Value × Nat × Array Tmp × Code × Code × Nat) :=
  if l < s.n ∧ l + 1 < 2 ^ 40 then match s.t.get l with
    | some (.loop st pe fn tm sz ps as bo df) => some (st, pe, fn, tm, sz, ps, as, bo, df)
    | _ => none
  else none
theorem loopAt_get {s : St} {l : Nat} {st : LoopState} {pe : Option Code} {fn : FuncId} {tm : Tree Value} {sz : Nat} {ps : Array Tmp} {as bo : Code} {df : Nat} (h : loopAt s l = some (st, pe, fn, tm, sz, ps, as, bo, df)) :
    l < s.n ∧ l + 1 < 2 ^ 40 ∧ s.t.get l = some (.loop st pe fn tm sz ps as bo df) := by
  unfold loopAt at h
  split at h
  · rename_i hl
    split at h
    · rename_i hg
      injection h with h
      simp only [Prod.mk.injEq] at h
      obtain ⟨rfl, rfl, rfl, rfl, rfl, rfl, rfl, rfl, rfl⟩ := h
      exact ⟨hl.1, hl.2, hg⟩
    · cases h
  · cases h
theorem run_getLoop {P : Program} {w : World} {l : Nat} {r : Loop} (h : w.heap[l]? = some (.loop r)) : (Instr.getLoop l).run P w = .ok r w := by
  unfold Instr.getLoop
  rw [Sem.run_bind]
  simp [getObj, Sem.run, h]
theorem run_setObj {P : Program} {w : World} {l : Nat} {r : Loop} (h : w.heap[l]? = some (.loop r)) (o : Obj) : (setObj l o).run P w = .ok () (setB w l o) := by
  simp [setObj, Sem.run, h, setB]

/-- the body of the loop is called -/
def yieldC (ev : Operand → Value) (c : Call) (s : St) : Option (NextC × St) :=
  match c.callee with
  | .value fo => match ev fo with
    | .func (.yield l) first cap => if first.isEmpty then match loopAt s l with
        | some (_, _, fn, tm, sz, ps, as, bo, _) => match putMany tm sz ps.toList (c.args.map ev).toList with
          | some tm1 => some (.round l fn tm1 sz as bo, s.rd l)
          | none => none
        | none => none
      else none
    | _ => none
  | _ => none
theorem yield_ok (P : Program) (ev : Operand → Value) {o : Oper} {c : Call} {s s1 : St} {n : NextC} (ho : o.op = .call c) (h : yieldC ev c s = some (n, s1)) : OpOk P ev o s s1 n := by
  unfold yieldC at h
  split at h
  · rename_i fo hc
    split at h
    · rename_i l first cap hx
      split at h
      · rename_i hemp
        split at h
        · rename_i st pe fn tm sz ps as bo df hl
          split at h
          · rename_i tm1 hp
            injection h with h; injection h with h1 h2
            subst h1 h2
            obtain ⟨l1, l2, l3⟩ := loopAt_get hl
            refine moves_rd s l fun ρ w ev' he hat _ => ?_
            have hA := hat l1
            rw [l3] at hA
            cases hA with
            | loop b' _ _ _ _ _ _ _ _ _ tmps d' k1 k2 k3 k4 =>
              have h1 := he fo (by simp [ho, Op.operands, Call.operands, hc])
              rw [hx] at h1
              have hargs := ARel.map (ρ := ρ) c.args ev ev' fun z hz => he z (by simp [ho, Op.operands, Call.operands, hz])
              generalize hq : ev' fo = q at h1
              cases h1 with
              | yield _ l' e =>
                rw [k1] at e
                injection e with e
                subst e
                obtain ⟨e1, e2⟩ := putMany_ok ps.toList _ _ tm tm1 tmps k3 hargs.lrel hp
                refine ⟨.round b' fn ((ps.zip (c.args.map ev')).foldl (fun t (p, v) => t.setIfInBounds p v) tmps) as bo, ?_, .round _ _ _ _ _ _ _ _ k1 ?_⟩
                · have hsz : (c.args.map ev').size = ps.size := by
                    have : ps.toList.length = (c.args.map ev').toList.length := e1
                    simpa using this.symm
                  simp only [execOp, ho, resolve, hc, hq, Deferred.ofValue, Sem.run_bind, Sem.run_pure, Result.andThen_ok, invoke, Array.empty_append, Instr.yield, run_getLoop k4, hsz, ne_eq, not_true, if_false]
                · have e3 : (ps.zip (c.args.map ev')).foldl (fun t (p, v) => t.setIfInBounds p v) tmps = (ps.toList.zip (c.args.map ev').toList).foldl (fun t (p, v) => t.setIfInBounds p v) tmps := by
                    rw [← Array.foldl_toList, Array.toList_zip]
                  rw [e3]
                  exact e2
          · cases h
        · cases h
      · cases h
    · cases h
  · cases h
end Go.Canon
