/-
  Append: in place, or into a new row; then the old row is given up where the model may go on in it.
-/
import Derived.Test.YtjdjmeiahchblaaGreatDoorCanH
namespace Go.Canon

/-- a block is given up, and a new one made, at a new place of the world or at that of the block given up -/
theorem kill_add {F : Nat} {ρ : Map} {s : St} {w w1 : World} {b b' m es : Nat} {o : CObj} {x : Stt} {c : Nat} {o' : Obj}
    (hi : Inv F ρ s w) (hf : ρ s.n = .none) (hb : b < s.n) (hn : s.n + 1 < 2 ^ 40) (hs : ρ b = .soft b' m es) (hx : x.tgt = some c)
    (hc : c = w.heap.size ∨ c = b') (hw : ∀ d, d < w.heap.size → d ≠ c → w1.heap[d]? = w.heap[d]?) (hwc : w1.heap[c]? = some o') (hsz : w.heap.size ≤ w1.heap.size)
    (ho : w1.os = w.os ∧ w1.output = w.output ∧ w1.tape = w.tape)
    (ha : ∀ (ρ1 : Map), le ρ ρ1 → ρ1 s.n = x → At ρ1 w1 s.n (some o)) :
    Inv F ((ρ.put b .dead).put s.n x) ((s.wr b .dead).add o) w1 ∧ Ext ((s.wr b .dead).add o).w ρ ((ρ.put b .dead).put s.n x) s ((s.wr b .dead).add o) w w1 := by
  have hcl : c < w1.heap.size := by
    rcases Nat.lt_or_ge c w1.heap.size with h1 | h1
    · exact h1
    · rw [Array.getElem?_eq_none h1] at hwc; cases hwc
  have hbn : b ≠ s.n := by omega
  have hl : le ρ ((ρ.put b .dead).put s.n x) := by
    intro d
    by_cases h1 : d = s.n
    · subst h1; exact .inl hf
    · rw [Map.put_ne _ _ h1]
      by_cases h2 : d = b
      · subst h2; rw [Map.put_self]; exact .inr (.inr ⟨by rw [hs]; rfl, rfl⟩)
      · rw [Map.put_ne _ _ h2]; exact .inr (.inl rfl)
  have hb'l := hi.lt b b' (by rw [hs]; rfl)
  -- whose target is whose
  have tg : ∀ d y, (((ρ.put b .dead).put s.n x) d).tgt = some y → (d = s.n ∧ y = c) ∨ (d ≠ s.n ∧ d ≠ b ∧ (ρ d).tgt = some y ∧ y ≠ c) := by
    intro d y e
    by_cases h1 : d = s.n
    · subst h1; rw [Map.put_self, hx] at e; exact .inl ⟨rfl, by injection e with e; exact e.symm⟩
    · rw [Map.put_ne _ _ h1] at e
      by_cases h2 : d = b
      · subst h2; rw [Map.put_self] at e; cases e
      · rw [Map.put_ne _ _ h2] at e
        refine .inr ⟨h1, h2, e, ?_⟩
        intro h3
        subst h3
        rcases hc with h4 | h4
        · have := hi.lt d _ e; omega
        · subst h4; exact h2 (hi.inj d b _ e (by rw [hs]; rfl))
  have get : ∀ d, ((s.wr b .dead).add o).t.get d = if d = s.n then some o else if d = b then some .dead else s.t.get d := by
    intro d
    simp only [St.add, St.wr]
    rw [Tree.get_set 40 _ _ _ _ hn, Tree.get_set 40 _ _ _ _ (by omega)]
  refine ⟨⟨?_, ?_, ?_⟩, ⟨hl, Nat.le_succ _, ?_, ?_, ?_, ?_, ?_, hsz, ?_, ho.1, ho.2.1, ho.2.2⟩⟩
  · intro d hd hF
    rw [get]
    by_cases h1 : d = s.n
    · subst h1; rw [if_pos rfl]; exact ha _ hl (Map.put_self _ _ _)
    · rw [if_neg h1]
      by_cases h2 : d = b
      · subst h2; rw [if_pos rfl]; exact .dead
      · rw [if_neg h2]
        simp only [St.add, St.wr] at hd
        refine (hi.at_ d (by omega) hF).keep hl (by rw [Map.put_ne _ _ h1, Map.put_ne _ _ h2]) (fun y hy => ?_)
        refine hw y (hi.lt d y hy) ?_
        intro e
        subst e
        rcases hc with h4 | h4
        · have := hi.lt d _ hy; omega
        · subst h4; exact h2 (hi.inj d b _ hy (by rw [hs]; rfl))
  · intro d e y h1 h2
    rcases tg d y h1 with ⟨h3, h4⟩ | ⟨h3, h4, h5, h6⟩ <;> rcases tg e y h2 with ⟨k3, k4⟩ | ⟨k3, k4, k5, k6⟩
    · omega
    · exact absurd h4 k6
    · exact absurd k4 h6
    · exact hi.inj d e y h5 k5
  · intro d y h1
    rcases tg d y h1 with ⟨h3, h4⟩ | ⟨h3, h4, h5, h6⟩
    · omega
    · have := hi.lt d y h5; omega
  · intro d hd hW
    rw [get, if_neg (by omega), if_neg]
    intro e
    subst e
    simp only [St.add, St.wr, Nat.testBit_or, bit_self, Bool.or_true, Bool.true_or] at hW
    cases hW
  · intro d hd hW
    rw [Map.put_ne _ _ (by omega), Map.put_ne]
    intro e
    subst e
    simp only [St.add, St.wr, Nat.testBit_or, bit_self, Bool.or_true, Bool.true_or] at hW
    cases hW
  · intro d hd
    simp only [St.add, St.wr] at hd
    rw [Map.put_ne _ _ (by omega), Map.put_ne _ _ (by omega)]
  · intro d hd
    rw [Map.put_ne _ _ (by omega)]
    by_cases h2 : d = b
    · subst h2; rw [Map.put_self]; exact .inr ⟨by rw [hs]; rfl, rfl⟩
    · exact .inl (Map.put_ne _ _ h2)
  · intro d hd hno
    refine hw d hd ?_
    intro e
    rcases hc with h4 | h4
    · omega
    · exact hno b hb (by simp [St.add, St.wr, Nat.testBit_or, bit_self]) (by rw [hs, e, h4]; rfl)
  · intro d y h1 h2 h3
    rcases tg d y h3 with ⟨h4, h5⟩ | ⟨h4, h5, h6, h7⟩
    · rcases hc with h8 | h8
      · exact .inl (by omega)
      · exact .inr ⟨b, hb, by simp [St.add, St.wr, Nat.testBit_or, bit_self], by rw [hs, h5, h8]; rfl⟩
    · simp only [St.add, St.wr] at h2; omega

/-- a new block, whatever else the world has drawn -/
theorem add_any {F : Nat} {ρ : Map} {s : St} {w w1 : World} {o : CObj} {x : Stt} {o' : Obj}
    (hi : Inv F ρ s w) (hf : ρ s.n = .none) (hn : s.n + 1 < 2 ^ 40) (hx : x.tgt = some w.heap.size) (hw : w1.heap = w.heap.push o') (ho : w1.os = w.os ∧ w1.output = w.output ∧ w1.tape = w.tape)
    (ha : ∀ (ρ1 : Map), le ρ ρ1 → ρ1 s.n = x → At ρ1 w1 s.n (some o)) :
    Inv F (ρ.put s.n x) (s.add o) w1 ∧ Ext (s.add o).w ρ (ρ.put s.n x) s (s.add o) w w1 := by
  have hl := le_put (ρ := ρ) (b := s.n) x hf
  have hheap : ∀ c, c < w.heap.size → w1.heap[c]? = w.heap[c]? := fun c hc => by
    rw [hw, Array.getElem?_push, if_neg (by omega)]
  have hsz : w1.heap.size = w.heap.size + 1 := by rw [hw, Array.size_push]
  have tg : ∀ c y, (ρ.put s.n x c).tgt = some y → (c = s.n ∧ y = w.heap.size) ∨ (c ≠ s.n ∧ (ρ c).tgt = some y) := by
    intro c y e
    by_cases h1 : c = s.n
    · subst h1; rw [Map.put_self, hx] at e; exact .inl ⟨rfl, by injection e with e; exact e.symm⟩
    · rw [Map.put_ne _ _ h1] at e; exact .inr ⟨h1, e⟩
  refine ⟨⟨?_, ?_, ?_⟩, ⟨hl, Nat.le_succ _, ?_, ?_, ?_, ?_, fun c hc _ => hheap c hc, by omega, ?_, ho.1, ho.2.1, ho.2.2⟩⟩
  · intro c hc hF'
    simp only [St.add] at hc ⊢
    rw [Tree.get_set 40 _ _ _ _ hn]
    by_cases e : c = s.n
    · subst e
      rw [if_pos rfl]
      exact ha _ hl (Map.put_self _ _ _)
    · rw [if_neg e]
      exact (hi.at_ c (by omega) hF').keep hl (Map.put_ne _ _ e) (fun c' hc' => hheap c' (hi.lt c c' hc'))
  · intro b c y h1 h2
    rcases tg b y h1 with ⟨h3, h4⟩ | ⟨h3, h4⟩ <;> rcases tg c y h2 with ⟨h5, h6⟩ | ⟨h5, h6⟩
    · omega
    · have := hi.lt c y h6; omega
    · have := hi.lt b y h4; omega
    · exact hi.inj b c y h4 h6
  · intro b y h1
    rcases tg b y h1 with ⟨_, h4⟩ | ⟨_, h4⟩
    · omega
    · have := hi.lt b y h4; omega
  · intro c hc _
    simp only [St.add]
    rw [Tree.get_set 40 _ _ _ _ hn, if_neg (by omega)]
  · intro c hc _; exact Map.put_ne _ _ (by omega)
  · intro c hc; exact Map.put_ne _ _ (by simp only [St.add] at hc; omega)
  · intro c hc; exact .inl (Map.put_ne _ _ (by omega))
  · intro b c h1 h2 h3
    rcases tg b c h3 with ⟨_, h4⟩ | ⟨h4, _⟩
    · exact .inl (by omega)
    · simp only [St.add] at h2; omega

theorem growBy_le (newLen : Nat) : ∀ (r c : Nat), c ≤ 2 * newLen + 200 → Builtin.growBy newLen r c ≤ 2 * newLen + 200 := by
  intro r
  induction r with
  | zero => intro c h; exact h
  | succ r ih =>
    intro c h
    simp only [Builtin.growBy]
    split
    · exact h
    · exact ih _ (by omega)
theorem nextslicecap_le {newLen old : Nat} (h : old ≤ newLen) : Builtin.nextslicecap newLen old ≤ 2 * newLen + 200 := by
  unfold Builtin.nextslicecap
  split
  · omega
  · split
    · omega
    · exact growBy_le _ _ _ (by omega)

def intD : TypeDesc → Bool
  | .int _ => true
  | _ => false

/-- what the model's append does, in place -/
theorem run_append_place {P : Program} {w : World} {t tx elem : TypeId} {dx : TypeDesc} {ie : TypeInfo} {base : Option Addr} {sLen sCap n : Nat} {y : Value} {argTypes : Array TypeId} {args : Array Value} {ty : TypeId} {new : Array Value}
    (h0 : argTypes[0]? = some t) (h1 : argTypes[1]? = some tx) (a0 : args[0]? = some (.slice base sLen sCap)) (a1 : args[1]? = some y)
    (hd : P.underlying t = some (.slice elem)) (hx : P.underlying tx = some dx) (hi : intD dx = false) (hie : P.info? elem = some ie)
    (hn : (Builtin.lenOf y).run P w = .ok n w) (hnew : (Builtin.firstCells ie.size n y).run P w = .ok new w) (hle : sLen + n ≤ sCap) :
    (Builtin.append_ argTypes ty args).run P w = (match base with
      | some a => ((storeCells (a.add (sLen * ie.size)) new.toList).run P w).andThen fun _ w' => .ok (.slice base (sLen + n) sCap) w'
      | none => .ok (.slice base (sLen + n) sCap) w) := by
  have hz : (match dx with | .int _ => true | _ => false) = false := by cases dx <;> first | rfl | (simp [intD] at hi)
  unfold Builtin.append_
  simp only [h0, a0, a1, Sem.run_bind, run_underlying_of hd, Result.andThen_ok, run_sizeOf_of hie, h1, run_underlying_of hx, Sem.run_pure]
  cases dx <;> first | (simp [intD] at hi; done) | skip
  all_goals
    simp only [Bool.false_eq_true, if_false, Sem.run_bind, hn, Result.andThen_ok, Bool.not_false, if_true, hle, hnew]
    cases base <;> simp [andThen_assoc]

/-- what it does where there is no room -/
theorem run_append_grow {P : Program} {w : World} {t tx elem : TypeId} {dx : TypeDesc} {ie : TypeInfo} {base : Option Addr} {sLen sCap n : Nat} {y z : Value} {argTypes : Array TypeId} {args : Array Value} {ty : TypeId} {old new : Array Value}
    (h0 : argTypes[0]? = some t) (h1 : argTypes[1]? = some tx) (a0 : args[0]? = some (.slice base sLen sCap)) (a1 : args[1]? = some y)
    (hd : P.underlying t = some (.slice elem)) (hx : P.underlying tx = some dx) (hi : intD dx = false) (hie : P.info? elem = some ie) (hz : ie.zero = some z)
    (hn : (Builtin.lenOf y).run P w = .ok n w) (hnew : ∀ wd : World, wd.heap = w.heap → (Builtin.firstCells ie.size n y).run P wd = .ok new wd)
    (hold : ∀ wd : World, wd.heap = w.heap → (Builtin.firstCells ie.size sLen (.slice base sLen sCap)).run P wd = .ok old wd)
    (hgt : ¬ sLen + n ≤ sCap) (hb1 : ¬ ((sLen + n : Nat) : Int) > IntKind.i64.max) (hb2 : ¬ Builtin.nextslicecap (sLen + n) sCap * ie.bytes > 2 ^ 48) :
    ∃ newCap w1, sLen + n ≤ newCap ∧ (Builtin.append_ argTypes ty args).run P w = .ok (.slice (some ⟨w.heap.size, 0, none⟩) (sLen + n) newCap) w1 ∧
      w1.heap = w.heap.push (.cells (old ++ new ++ Builtin.zeroCells z.cells (newCap - (sLen + n))) elem (0, 0)) ∧ w1.os = w.os ∧ w1.output = w.output ∧ w1.tape = w.tape := by
  refine ⟨sLen + n + w.tape w.drawn (.appendCap (sLen + n) sCap elem) % (2 ^ 63 - (sLen + n)), { ({ w with drawn := w.drawn + 1 } : World) with heap := w.heap.push (.cells (old ++ new ++ Builtin.zeroCells z.cells (sLen + n + w.tape w.drawn (.appendCap (sLen + n) sCap elem) % (2 ^ 63 - (sLen + n)) - (sLen + n))) elem (0, 0)) }, by omega, ?_, rfl, rfl, rfl, rfl⟩
  have e1 := hold { w with drawn := w.drawn + 1 } rfl
  have e2 := hnew { w with drawn := w.drawn + 1 } rfl
  unfold Builtin.append_
  simp only [h0, a0, a1, Sem.run_bind, run_underlying_of hd, Result.andThen_ok, run_sizeOf_of hie, h1, run_underlying_of hx, Sem.run_pure]
  cases dx <;> first | (simp [intD] at hi; done) | skip
  all_goals
    simp only [Bool.false_eq_true, if_false, Sem.run_bind, hn, Result.andThen_ok, Bool.not_false, if_true, hgt, run_typeInfo_of hie, hb1, false_and, hb2, run_choose, Question.forced, Question.cut, run_askRoom, e1, e2, run_zeroValue_of hie hz, newRow, run_newObj, Sem.run_pure, andThen_assoc, false_or]

def elemOf (s : St) (b : Nat) : Option TypeId :=
  match s.t.get b with
  | some (.cells _ e _) => some e
  | _ => none
theorem setA_get : ∀ (vs : List Value) (c : Array Value) (off i : Nat), off + vs.length ≤ c.size → (setA c off vs)[i]? = if off ≤ i ∧ i < off + vs.length then vs[i - off]? else c[i]?
  | [], c, off, i, _ => by simp [setA]; omega
  | v :: vs, c, off, i, h => by
    simp only [List.length_cons] at h
    rw [setA, setA_get vs _ _ i (by simp; omega), Array.getElem?_setIfInBounds]
    by_cases h1 : off = i
    · subst h1
      rw [if_neg (by omega), if_pos rfl, if_pos (by omega), if_pos (by simp)]
      simp
    · rw [if_neg h1]
      by_cases h2 : off + 1 ≤ i ∧ i < off + 1 + vs.length
      · rw [if_pos h2, if_pos (by simp only [List.length_cons]; omega)]
        rw [show i - off = (i - (off + 1)) + 1 by omega]
        simp
      · rw [if_neg h2, if_neg (by simp only [List.length_cons]; omega)]
theorem ldCs_list {s s1 : St} {a : Addr} {k : Nat} {l c : List Value} {e sf : Nat} (h : ldCs s a k = some (l, s1)) (hg : s.t.get a.block = some (.cells c e sf)) : l = (c.drop a.off).take k := by
  unfold ldCs at h
  split at h
  · rename_i h0
    injection h with h; injection h with h1 h2
    subst h0 h1; simp
  · split at h
    · cases h
    · split at h
      · rw [hg] at h
        simp only [rowC] at h
        split at h
        · injection h with h; injection h with h1 h2; exact h1.symm
        · cases h
      · cases h

def appendC (P : Program) (ev : Operand → Value) (c : Call) (s : St) : Option (NextC × St) :=
  match c.callee with
  | .builtin .append => match c.argTypes[0]?, c.argTypes[1]?, c.args[0]?, c.args[1]? with
    | some t, some tx, some x, some y => match P.underlying t, P.underlying tx, ev x, lenOfC (ev y) with
      | some (.slice elem), some dx, .slice base sLen sCap, some n => if intD dx then none else
        match P.info? elem with
        | some ie => match firstC ie.size n (ev y) s with
          | some (new, s1) =>
            if sLen + n ≤ sCap then match base with
              | none => some (.val (.slice none (sLen + n) sCap), s1)
              | some a => match softOf s1 a.block with
                | some _ => match stCs (s1.rd a.block) (a.add (sLen * ie.size)) new with
                  | some s2 => some (.val (.slice (some a) (sLen + n) sCap), s2)
                  | none => none
                | none => none
            else match ie.zero with
              | some z => if z.cells.size = ie.size ∧ (2 * (sLen + n) + 200) * ie.bytes ≤ 2 ^ 48 ∧ sLen + n ≤ 9223372036854775807 ∧ s1.n + 1 < 2 ^ 40 then
                  match firstC ie.size sLen (.slice base sLen sCap) s1 with
                  | some (old, s2) => match base with
                    | none => some (.val (.slice (some ⟨s2.n, 0, none⟩) (sLen + n) (sLen + n)), s2.add (.cells (old ++ new) elem (ie.size + 1)))
                    | some a => match softOf s2 a.block with
                      | some 0 => some (.val (.slice (some ⟨s2.n, 0, none⟩) (sLen + n) (sLen + n)), (s2.rd a.block).add (.cells (old ++ new) elem (ie.size + 1)))
                      | some (sf + 1) => if sf = ie.size ∧ a.off = 0 ∧ a.spot = none ∧ elemOf s2 a.block = some elem ∧ new.isEmpty = false ∧ new.all Value.oneCell' = true then
                          some (.val (.slice (some ⟨s2.n, 0, none⟩) (sLen + n) (sLen + n)), (s2.wr a.block .dead).add (.cells (old ++ new) elem (ie.size + 1)))
                        else none
                      | none => none
                  | none => none
                else none
              | none => none
          | none => none
        | none => none
      | _, _, _, _ => none
    | _, _, _, _ => none
  | _ => none

theorem VRel.relen {ρ ρ1 : Map} {a a' : Addr} {n k c c' : Nat} (h : VRel ρ (.slice (some a) n c) (.slice (some a') n c')) (hl : le ρ ρ1) : VRel ρ1 (.slice (some a) k c) (.slice (some a') k c') := by
  have h2 := h.mono hl
  cases h2 with
  | slHard _ b' _ _ e => exact .slHard a b' _ _ e
  | slSoft _ b' m es _ _ _ e e1 e2 => exact .slSoft a b' m es _ _ _ e e1 e2
  | slDead _ _ _ _ _ e => exact .slDead a _ _ _ _ e
theorem VRel.slice_cap {ρ : Map} {a : Addr} {n c : Nat} {v : Value} (h : VRel ρ (.slice (some a) n c) v) : ∃ a' c', v = .slice (some a') n c' ∧ AdR ρ a a' ∧ (c ≤ c' ∨ ρ a.block = .dead) := by
  cases h with
  | slHard _ b' _ _ e => exact ⟨_, _, rfl, .inl ⟨by rw [e]; rfl, rfl, rfl⟩, .inl (Nat.le_refl _)⟩
  | slSoft _ b' m es _ _ c' e e1 _ => exact ⟨_, _, rfl, .inl ⟨by rw [e]; rfl, rfl, rfl⟩, .inl e1⟩
  | slDead _ a' _ _ c' e => exact ⟨_, _, rfl, .inr e, .inr e⟩

theorem softOf_dead {s : St} {b sf : Nat} (h : softOf s b = some sf) {F : Nat} {ρ : Map} {w : World} (hi : Inv F ρ s w) (hF : F.testBit b = true) : ρ b ≠ .dead := by
  rcases softOf_at h (fun hb => hi.at_ b hb hF) with ⟨_, b', e⟩ | ⟨b', m, es, e, _⟩ <;> (rw [e]; intro q; cases q)
theorem bit_or_r (a b : Nat) : (a ||| 2 ^ b).testBit b = true := by simp [Nat.testBit_or, bit_self]

theorem append_place_ok (P : Program) {t tx elem : TypeId} {dx : TypeDesc} {ie : TypeInfo} {base : Option Addr} {sLen sCap n : Nat} {y : Value} {s s1 s2 : St} {new : List Value} {v : Value}
    (hd : P.underlying t = some (.slice elem)) (hx : P.underlying tx = some dx) (hi : intD dx = false) (hie : P.info? elem = some ie) (hln : lenOfC y = some n)
    (hf : firstC ie.size n y s = some (new, s1)) (hle : sLen + n ≤ sCap)
    (h : (match base with
              | none => some (NextC.val (.slice none (sLen + n) sCap), s1)
              | some a => match softOf s1 a.block with
                | some _ => match stCs (s1.rd a.block) (a.add (sLen * ie.size)) new with
                  | some s2 => some (.val (.slice (some a) (sLen + n) sCap), s2)
                  | none => none
                | none => none) = some (.val v, s2)) :
    Simu P s s2 (fun ρ (q : Array TypeId × Array Value) => q.1[0]? = some t ∧ q.1[1]? = some tx ∧ (∃ x', q.2[0]? = some x' ∧ VRel ρ (.slice base sLen sCap) x') ∧ ∃ y', q.2[1]? = some y' ∧ VRel ρ y y')
      (fun q => Builtin.append_ q.1 0 q.2) (fun ρ r => VRel ρ v r) := by
  cases base with
  | none =>
    injection h with h; injection h with e1 e2
    injection e1 with e1
    subst e1 e2
    refine ⟨Mono.rd (firstC_shape hf).1, fun F hF ρ w q _ hinv hq => ?_⟩
    obtain ⟨q0, q1, ⟨x', q2, q3⟩, y', q4, q5⟩ := hq
    obtain ⟨r, r1, r2⟩ := firstC_read P hf hF hinv q5
    cases q3 with
    | slNil _ _ =>
      exact ⟨ρ, w, hinv.rd (firstC_shape hf).1, .rd (firstC_shape hf).1, _, run_append_place q0 q1 q2 q4 hd hx hi hie (lenOfC_inv hln q5 P w) (r1 w rfl) hle, .slNil _ _⟩
  | some a =>
    dsimp only at h
    split at h
    · rename_i sf hsf
      split at h
      · rename_i s3 hst
        injection h with h; injection h with e1 e2
        injection e1 with e1
        subst e1 e2
        have hst2 := stCs_ok P hst
        have m1 := Mono.rd (firstC_shape hf).1
        refine ⟨(m1.trans (s1.rd_mono _)).trans hst2.1, fun F hF ρ w q hfr hinv hq => ?_⟩
        obtain ⟨q0, q1, ⟨x', q2, q3⟩, y', q4, q5⟩ := hq
        have hF1 : Sub (s1.rd a.block).fp F := hst2.1.fp.trans hF
        obtain ⟨r, r1, r2⟩ := firstC_read P hf ((s1.rd_mono _).fp.trans hF1) hinv q5
        have i1 := hinv.rd (firstC_shape hf).1
        have hbit : F.testBit a.block = true := hF1 _ (by simp [St.fp, St.rd, Nat.testBit_or, bit_self])
        have hnd := softOf_dead hsf i1 hbit
        have i2 : Inv F ρ (s1.rd a.block) w := i1.rd (.inr ⟨_, rfl⟩)
        obtain ⟨a', c', e, hr, hc⟩ := q3.slice_cap
        subst e
        have hn1 : s.n = (s1.rd a.block).n := by
          rcases (firstC_shape hf).1 with e | ⟨_, e⟩ <;> (rw [e]; rfl)
        obtain ⟨ρ1, w1, j1, j2, u, j3, _⟩ := hst2.2 F hF ρ w (a'.add (sLen * ie.size), r.toList) (fun b h1 h2 => hfr b (by omega) h2) i2 ⟨hr.add _, r2.lrel⟩
        have ex : Ext s3.w ρ ρ s (s1.rd a.block) w w := (Ext.rd (firstC_shape hf).1).trans (Ext.rd (.inr ⟨_, rfl⟩))
        refine ⟨ρ1, w1, j1, ex.trans j2, .slice (some a') (sLen + n) c', ?_, q3.relen j2.le⟩
        rw [run_append_place q0 q1 q2 q4 hd hx hi hie (lenOfC_inv hln q5 P w) (r1 w rfl) (by rcases hc with hc | hc; omega; exact absurd hc hnd)]
        simp only at j3 ⊢
        rw [j3]
        rfl
      · cases h
    · cases h

theorem zeroCells_size (z : Array Value) (n : Nat) : (Builtin.zeroCells z n).size = n * z.size := by simp [Builtin.zeroCells]

theorem append_grow_ok (P : Program) {t tx elem : TypeId} {dx : TypeDesc} {ie : TypeInfo} {base : Option Addr} {sLen sCap n : Nat} {y z : Value} {s s1 s2 s3 : St} {new old : List Value} {v : Value}
    (hd : P.underlying t = some (.slice elem)) (hx : P.underlying tx = some dx) (hi : intD dx = false) (hie : P.info? elem = some ie) (hln : lenOfC y = some n) (hz : ie.zero = some z)
    (hf : firstC ie.size n y s = some (new, s1)) (hle : ¬ sLen + n ≤ sCap) (hzs : z.cells.size = ie.size) (hb2 : (2 * (sLen + n) + 200) * ie.bytes ≤ 2 ^ 48) (hb1 : sLen + n ≤ 9223372036854775807) (hn40 : s1.n + 1 < 2 ^ 40)
    (hg : firstC ie.size sLen (.slice base sLen sCap) s1 = some (old, s2))
    (h : (match base with
                    | none => some (NextC.val (.slice (some ⟨s2.n, 0, none⟩) (sLen + n) (sLen + n)), s2.add (.cells (old ++ new) elem (ie.size + 1)))
                    | some a => match softOf s2 a.block with
                      | some 0 => some (.val (.slice (some ⟨s2.n, 0, none⟩) (sLen + n) (sLen + n)), (s2.rd a.block).add (.cells (old ++ new) elem (ie.size + 1)))
                      | some (sf + 1) => if sf = ie.size ∧ a.off = 0 ∧ a.spot = none ∧ elemOf s2 a.block = some elem ∧ new.isEmpty = false ∧ new.all Value.oneCell' = true then
                          some (.val (.slice (some ⟨s2.n, 0, none⟩) (sLen + n) (sLen + n)), (s2.wr a.block .dead).add (.cells (old ++ new) elem (ie.size + 1)))
                        else none
                      | none => none) = some (.val v, s3)) :
    Simu P s s3 (fun ρ (q : Array TypeId × Array Value) => q.1[0]? = some t ∧ q.1[1]? = some tx ∧ (∃ x', q.2[0]? = some x' ∧ VRel ρ (.slice base sLen sCap) x') ∧ ∃ y', q.2[1]? = some y' ∧ VRel ρ y y')
      (fun q => Builtin.append_ q.1 0 q.2) (fun ρ r => VRel ρ v r) := by
  have sh1 := firstC_shape hf
  have sh2 := firstC_shape hg
  have n1 : s1.n = s.n := by rcases sh1.1 with e | ⟨_, e⟩ <;> simp [e, St.rd]
  have n2 : s2.n = s1.n := by rcases sh2.1 with e | ⟨_, e⟩ <;> simp [e, St.rd]
  have m1 := Mono.rd sh1.1
  have m2 := Mono.rd sh2.1
  have m40 : s2.n + 1 < 2 ^ 40 := by omega
  -- the new row, in a world that has made it anew
  have fresh : ∀ (ρ : Map) (w w1 : World) (r o' : Array Value) (newCap : Nat), sLen + n ≤ newCap → ARel ρ ⟨new⟩ r → ARel ρ ⟨old⟩ o' →
      w1.heap = w.heap.push (.cells (o' ++ r ++ Builtin.zeroCells z.cells (newCap - (sLen + n))) elem (0, 0)) →
      w1.heap[w.heap.size]? = some (.cells (o' ++ r ++ Builtin.zeroCells z.cells (newCap - (sLen + n))) elem (0, 0)) ∧
      (o' ++ r ++ Builtin.zeroCells z.cells (newCap - (sLen + n))).size = newCap * ie.size ∧
      (∀ ρ1, le ρ ρ1 → PRel ρ1 (old ++ new) (o' ++ r ++ Builtin.zeroCells z.cells (newCap - (sLen + n)))) := by
    intro ρ w w1 r o' newCap hc hr ho hw
    refine ⟨by rw [hw, Array.getElem?_push, if_pos rfl], ?_, ?_⟩
    · have e1 := hr.1
      have e2 := ho.1
      simp only [List.size_toArray] at e1 e2
      rw [Array.size_append, Array.size_append, zeroCells_size, hzs, ← e1, ← e2, sh1.2, sh2.2]
      rw [← Nat.add_mul, ← Nat.add_mul]
      congr 1
      omega
    · intro ρ1 hl
      have hA := ((ho.append hr).mono hl).prel
      intro i x hxi
      have hxi2 : (⟨old⟩ ++ ⟨new⟩ : Array Value).toList[i]? = some x := by simpa using hxi
      obtain ⟨x', e1, e2⟩ := hA i x hxi2
      refine ⟨x', ?_, e2⟩
      obtain ⟨q, e1⟩ := Array.getElem?_eq_some_iff.1 e1
      rw [Array.getElem?_append_left q]
      exact Array.getElem?_eq_some_iff.2 ⟨q, e1⟩
  -- the bounds that the model asks about
  have bb1 : ¬ ((sLen + n : Nat) : Int) > IntKind.i64.max := by
    have : IntKind.i64.max = 9223372036854775807 := by decide
    rw [this]; omega
  have bb2 : ∀ c', ¬ sLen + n ≤ c' → ¬ Builtin.nextslicecap (sLen + n) c' * ie.bytes > 2 ^ 48 := by
    intro c' hc hgt
    have h1 := nextslicecap_le (newLen := sLen + n) (old := c') (by omega)
    have h2 := Nat.mul_le_mul_right ie.bytes h1
    omega
  cases base with
  | none =>
    injection h with h; injection h with e1 e2
    injection e1 with e1
    subst e1 e2
    refine ⟨(m1.trans m2).trans (s2.add_mono _ m40), fun F hF ρ w q hfr hinv hq => ?_⟩
    obtain ⟨q0, q1, ⟨x', q2, q3⟩, y', q4, q5⟩ := hq
    have hF2 : Sub s2.fp F := (s2.add_mono _ m40).fp.trans hF
    have hF1 : Sub s1.fp F := m2.fp.trans hF2
    have i1 := hinv.rd sh1.1
    have i2 := i1.rd sh2.1
    obtain ⟨r, r1, r2⟩ := firstC_read P hf hF1 hinv q5
    obtain ⟨o', o1, o2⟩ := firstC_read P hg hF2 i1 q3
    cases q3 with
    | slNil _ _ =>
      obtain ⟨newCap, w1, hc, hrun, hw, h5, h6, h7⟩ := run_append_grow (old := o') (new := r) (ty := 0) q0 q1 q2 q4 hd hx hi hie hz (lenOfC_inv hln q5 P w) r1 o1 hle bb1 (bb2 _ hle)
      obtain ⟨f1, f2, f3⟩ := fresh ρ w w1 r o' newCap hc r2 o2 hw
      obtain ⟨j1, j2⟩ := add_any (o := .cells (old ++ new) elem (ie.size + 1)) (x := .soft w.heap.size (newCap * ie.size) ie.size) i2 (hfr s2.n (by omega) (by simp only [St.add]; omega)) (by omega) rfl hw ⟨h5, h6, h7⟩
        (fun ρ1 hl he => .soft _ elem ie.size w.heap.size _ (by rw [f2]; exact he) f1 (f3 ρ1 hl))
      refine ⟨_, w1, j1, ((Ext.rd sh1.1).trans (Ext.rd sh2.1)).trans j2, _, hrun, ?_⟩
      exact .slSoft ⟨s2.n, 0, none⟩ w.heap.size _ ie.size _ _ _ (Map.put_self _ _ _) hc (by simp)
  | some a =>
    dsimp only at h
    split at h
    · rename_i hsf
      injection h with h; injection h with e1 e2
      injection e1 with e1
      subst e1 e2
      refine ⟨((m1.trans m2).trans (s2.rd_mono _)).trans (St.add_mono (s2.rd a.block) _ m40), fun F hF ρ w q hfr hinv hq => ?_⟩
      obtain ⟨q0, q1, ⟨x', q2, q3⟩, y', q4, q5⟩ := hq
      have hF3 : Sub (s2.rd a.block).fp F := (St.add_mono (s2.rd a.block) _ m40).fp.trans hF
      have hF2 : Sub s2.fp F := (s2.rd_mono _).fp.trans hF3
      have hF1 : Sub s1.fp F := m2.fp.trans hF2
      have i1 := hinv.rd sh1.1
      have i2 := i1.rd sh2.1
      have i3 : Inv F ρ (s2.rd a.block) w := i2.rd (.inr ⟨_, rfl⟩)
      obtain ⟨r, r1, r2⟩ := firstC_read P hf hF1 hinv q5
      obtain ⟨o', o1, o2⟩ := firstC_read P hg hF2 i1 q3
      have hbit : F.testBit a.block = true := hF3 _ (by simp [St.fp, St.rd, Nat.testBit_or, bit_self])
      rcases softOf_at hsf (fun hb => i2.at_ a.block hb hbit) with ⟨_, b', hh⟩ | ⟨_, _, _, _, e⟩
      · cases q3 with
        | slHard _ b2 _ _ e =>
          obtain ⟨newCap, w1, hc, hrun, hw, h5, h6, h7⟩ := run_append_grow (old := o') (new := r) (ty := 0) q0 q1 q2 q4 hd hx hi hie hz (lenOfC_inv hln q5 P w) r1 o1 hle bb1 (bb2 _ hle)
          obtain ⟨f1, f2, f3⟩ := fresh ρ w w1 r o' newCap hc r2 o2 hw
          obtain ⟨j1, j2⟩ := add_any (o := .cells (old ++ new) elem (ie.size + 1)) (x := .soft w.heap.size (newCap * ie.size) ie.size) i3 (hfr s2.n (by omega) (by simp only [St.add, St.rd]; omega)) (by simp only [St.rd]; omega) rfl hw ⟨h5, h6, h7⟩
            (fun ρ1 hl he => .soft _ elem ie.size w.heap.size _ (by rw [f2]; exact he) f1 (f3 ρ1 hl))
          refine ⟨_, w1, j1, (((Ext.rd sh1.1).trans (Ext.rd sh2.1)).trans (Ext.rd (.inr ⟨_, rfl⟩))).trans j2, _, hrun, ?_⟩
          exact .slSoft ⟨s2.n, 0, none⟩ w.heap.size _ ie.size _ _ _ (Map.put_self _ _ _) hc (by simp)
        | slSoft _ _ _ _ _ _ _ e _ _ => rw [hh] at e; cases e
        | slDead _ _ _ _ _ e => rw [hh] at e; cases e
      · cases e
    · rename_i sf hsf
      split at h
      · rename_i hcond
        obtain ⟨c1, c2, c3, c4, c5, c6⟩ := hcond
        injection h with h; injection h with e1 e2
        injection e1 with e1
        subst e1 e2
        have hbn : a.block < s2.n := by
          unfold softOf at hsf
          split at hsf
          · assumption
          · cases hsf
        refine ⟨((m1.trans m2).trans (s2.wr_mono _ _ (by omega))).trans (St.add_mono (s2.wr a.block .dead) _ m40), fun F hF ρ w q hfr hinv hq => ?_⟩
        obtain ⟨q0, q1, ⟨x', q2, q3⟩, y', q4, q5⟩ := hq
        have hF3 : Sub (s2.wr a.block .dead).fp F := (St.add_mono (s2.wr a.block .dead) _ m40).fp.trans hF
        have hF2 : Sub s2.fp F := (s2.wr_mono _ _ (by omega)).fp.trans hF3
        have hF1 : Sub s1.fp F := m2.fp.trans hF2
        have i1 := hinv.rd sh1.1
        have i2 := i1.rd sh2.1
        obtain ⟨r, r1, r2⟩ := firstC_read P hf hF1 hinv q5
        obtain ⟨o', o1, o2⟩ := firstC_read P hg hF2 i1 q3
        have hbit : F.testBit a.block = true := hF3 _ (by simp [St.fp, St.wr, Nat.testBit_or, bit_self])
        have hA := i2.at_ a.block hbn hbit
        have hsn : ρ s2.n = .none := hfr s2.n (by omega) (by simp only [St.add, St.wr]; omega)
        rcases softOf_at hsf (fun _ => hA) with ⟨e, _⟩ | ⟨b', m, es, hh, e⟩
        · cases e
        · have ees : es = ie.size := by omega
          cases q3 with
          | slHard _ b2 _ _ e => rw [hh] at e; cases e
          | slDead _ _ _ _ _ e => rw [hh] at e; cases e
          | slSoft _ b2 m2 es2 _ _ c' e e3 e4 =>
            rw [hh] at e
            injection e with g1 g2 g3
            subst g1 g2 g3
            have w3 : (s2.wr a.block .dead).n = s2.n := rfl
            by_cases hroom : sLen + n ≤ c'
            · -- in place
              have hget : s2.t.get a.block = s1.t.get a.block := by rcases sh2.1 with e | ⟨_, e⟩ <;> simp [e, St.rd]
              unfold elemOf at c4
              split at c4
              · rename_i c e0 sf0 hgc
                injection c4 with c4
                rw [c4] at hgc
                rw [hgc] at hA
                have hlist := ldCs_list (s := s1) hg (hget.symm.trans hgc)
                rw [c2, List.drop_zero] at hlist
                cases hA with
                | hard _ _ _ _ e _ _ _ => rw [hh] at e; cases e
                | soft _ _ es9 b9 cA k1 k2 k3 =>
                  rw [hh] at k1
                  injection k1 with k4 k5 k6
                  subst k4 k5
                  have hrl : r.size = n * ie.size := by have := r2.1; simp only [List.size_toArray] at this; rw [← this, sh1.2]
                  have hol : old.length = sLen * ie.size := sh2.2
                  have hbound : sLen * ie.size + n * ie.size ≤ cA.size := by
                    rw [ees] at e4
                    have h9 : (sLen + n) * ie.size ≤ c' * ie.size := Nat.mul_le_mul_right _ hroom
                    rw [Nat.add_mul] at h9
                    omega
                  have hadd : (⟨b', a.off, a.spot⟩ : Addr).add (sLen * ie.size) = ⟨b', sLen * ie.size, none⟩ := by
                    rw [c2, c3]
                    unfold Addr.add
                    split
                    · rename_i h0; rw [h0]
                    · simp
                  have hne : r.toList ≠ [] := by
                    intro h0
                    have h1 : r.size = 0 := by rw [← Array.length_toList, h0]; rfl
                    have h2 := r2.1
                    simp only [List.size_toArray] at h2
                    have : new = [] := List.eq_nil_of_length_eq_zero (by omega)
                    subst this
                    simp at c5
                  have hb'l := hinv.lt a.block b' (by rw [hh]; rfl)
                  have hst := run_storeCells P r.toList w b' (sLen * ie.size) 0 cA elem k2 (r2.lrel.oneCell c6) hne (by simp only [Array.length_toList]; omega)
                  rw [Nat.add_zero] at hst
                  have hrun := run_append_place (ty := 0) q0 q1 q2 q4 hd hx hi hie (lenOfC_inv hln q5 P w) (r1 w rfl) hroom
                  simp only [hadd] at hrun
                  rw [hst] at hrun
                  have hheap : (setB w b' (.cells (setA cA (sLen * ie.size) r.toList) elem (0, 0))).heap[b']? = some (.cells (setA cA (sLen * ie.size) r.toList) elem (0, 0)) := by rw [setB_heap _ _ _ _ hb'l, if_pos rfl]
                  have hprel : ∀ ρ1, le ρ ρ1 → PRel ρ1 (old ++ new) (setA cA (sLen * ie.size) r.toList) := by
                    intro ρ1 hl i x hxi
                    rw [setA_get _ _ _ _ (by simp only [Array.length_toList]; omega)]
                    by_cases h1 : i < old.length
                    · rw [List.getElem?_append_left h1] at hxi
                      rw [if_neg (by omega)]
                      rw [hlist, List.getElem?_take, if_pos (by omega)] at hxi
                      obtain ⟨x', h3, h4⟩ := k3 i x hxi
                      exact ⟨x', h3, h4.mono hl⟩
                    · rw [List.getElem?_append_right (by omega)] at hxi
                      have hlt : i - old.length < new.length := by
                        rcases Nat.lt_or_ge (i - old.length) new.length with h2 | h2
                        · exact h2
                        · rw [List.getElem?_eq_none h2] at hxi; cases hxi
                      have h2 := r2.1
                      simp only [List.size_toArray] at h2
                      rw [if_pos (by simp only [Array.length_toList]; omega)]
                      obtain ⟨x', h3, h4⟩ := r2.prel (i - old.length) x hxi
                      refine ⟨x', ?_, h4.mono hl⟩
                      rw [← hol, Array.getElem?_toList]
                      exact h3
                  obtain ⟨j1, j2⟩ := kill_add (o := .cells (old ++ new) elem (ie.size + 1)) (x := .soft b' cA.size ie.size) i2 hsn hbn (by omega) hh rfl (.inr rfl)
                    (fun d hd hne => by rw [setB_heap _ _ _ _ hb'l, if_neg hne]) hheap (by rw [setB_size]; exact Nat.le_refl _) ⟨rfl, rfl, rfl⟩
                    (fun ρ1 hl he => .soft _ elem ie.size b' _ (by rw [setA_size]; exact he) hheap (hprel ρ1 hl))
                  refine ⟨_, _, j1, ((Ext.rd sh1.1).trans (Ext.rd sh2.1)).trans j2, _, hrun, ?_⟩
                  rw [c2, c3]
                  refine .slSoft ⟨s2.n, 0, none⟩ b' _ ie.size _ _ _ (Map.put_self _ _ _) hroom ?_
                  rw [ees, c2] at e4
                  exact e4
              · cases c4
            · obtain ⟨newCap, w1, hc, hrun, hw, h5, h6, h7⟩ := run_append_grow (old := o') (new := r) (ty := 0) q0 q1 q2 q4 hd hx hi hie hz (lenOfC_inv hln q5 P w) r1 o1 hroom bb1 (bb2 _ hroom)
              obtain ⟨f1, f2, f3⟩ := fresh ρ w w1 r o' newCap hc r2 o2 hw
              obtain ⟨j1, j2⟩ := kill_add (o := .cells (old ++ new) elem (ie.size + 1)) (x := .soft w.heap.size (newCap * ie.size) ie.size) i2 hsn hbn (by omega) hh rfl (.inl rfl)
                (fun d hd _ => by rw [hw, Array.getElem?_push, if_neg (by omega)]) f1 (by rw [hw, Array.size_push]; omega) ⟨h5, h6, h7⟩
                (fun ρ1 hl he => .soft _ elem ie.size w.heap.size _ (by rw [f2]; exact he) f1 (f3 ρ1 hl))
              refine ⟨_, w1, j1, ((Ext.rd sh1.1).trans (Ext.rd sh2.1)).trans j2, _, hrun, ?_⟩
              exact .slSoft ⟨s2.n, 0, none⟩ w.heap.size _ ie.size _ _ _ (Map.put_self _ _ _) hc (by simp)
      · cases h
    · cases h
end Go.Canon
