/-
  Copy, bytes to a string, and what append needs: reads that leave the world as it is, blocks that are given up.
-/
import Derived.Test.YtjdjmeiahchblaaGreatDoorCanG
namespace Go.Canon

theorem ldCs_shape {s s1 : St} {a : Addr} {k : Nat} {l : List Value} (h : ldCs s a k = some (l, s1)) : (s1 = s ∨ s1 = s.rd a.block) ∧ l.length = k := by
  unfold ldCs at h
  split at h
  · rename_i h0
    injection h with h; injection h with h1 h2; subst h1 h2 h0; exact ⟨.inl rfl, rfl⟩
  · split at h
    · cases h
    · split at h
      · split at h
        · split at h
          · injection h with h; injection h with h1 h2; subst h1 h2; exact ⟨.inr rfl, by simp; omega⟩
          · cases h
        · cases h
      · cases h

/-- a load leaves the world, and what is tied to what -/
theorem ldCs_read (P : Program) {s s1 : St} {a : Addr} {k : Nat} {l : List Value} (h : ldCs s a k = some (l, s1)) {F : Nat} (hF : Sub s1.fp F) {ρ : Map} {w : World} (hi : Inv F ρ s w) {a' : Addr} (ha : AdR ρ a a') :
    ∃ r, (∀ wd : World, wd.heap = w.heap → (loadCells a' k).run P wd = .ok r wd) ∧ ARel ρ ⟨l⟩ r := by
  unfold ldCs at h
  split at h
  · rename_i h0
    injection h with h; injection h with h1 h2
    subst h1 h2 h0
    exact ⟨#[], fun _ _ => rfl, rfl, fun i h1 _ => by simp at h1⟩
  · split at h
    · cases h
    · rename_i hsp
      split at h
      · rename_i hlt
        split at h
        · rename_i c hg
          split at h
          · rename_i hle
            injection h with h; injection h with h1 h2
            subst h1 h2
            have hA := hi.at_ a.block hlt (hF _ (by simp [St.fp, St.rd, Nat.testBit_or, bit_self]))
            obtain ⟨b', c', e, f, ht, hh, hp, hd⟩ := hA.row hg
            rcases ha with ⟨h1, h2, h3⟩ | h1
            · rw [ht] at h1
              injection h1 with h1
              have hlen := hp.len
              have hv : ((c'.toList.drop a.off).take k).length = k := by simp; omega
              refine ⟨((c'.toList.drop a.off).take k).toArray, ?_, ?_, ?_⟩
              · intro wd hwd
                have hh : wd.heap[b']? = some (.cells c' e f) := by rw [hwd]; exact hh
                have := run_loadCellsFrom P wd a' ((c'.toList.drop a.off).take k) 0 #[] (fun j v hj => by
                  obtain ⟨bb, oo, ss⟩ := a'
                  simp only at h1 h2 h3
                  subst h1 h2 h3
                  have ea : (⟨b', a.off, a.spot⟩ : Addr).add (0 + j) = ⟨b', a.off + j, none⟩ := by
                    unfold Addr.add
                    rw [hsp]
                    split
                    · rename_i e0
                      have : j = 0 := by omega
                      subst this; rfl
                    · rw [Nat.zero_add]
                  rw [ea, cell_at hh]
                  rw [List.getElem?_take] at hj
                  split at hj
                  · rw [List.getElem?_drop] at hj
                    simpa using hj
                  · cases hj)
                rw [hv] at this
                rw [Array.empty_append] at this
                exact this
              · simp; omega
              · intro i hi1 hi2
                simp at hi1
                obtain ⟨v', e1, e2⟩ := hp (a.off + i) c[a.off + i] (List.getElem?_eq_getElem (by omega))
                obtain ⟨q, e1⟩ := Array.getElem?_eq_some_iff.1 e1
                subst e1
                simpa using e2
            · exact absurd h1 hd
          · cases h
        · cases h
      · cases h

/-! the first cells of a slice or a string -/
def lenOfC : Value → Option Nat
  | .slice _ n _ => some n
  | .string s => some s.size
  | _ => none
def firstC (size n : Nat) (v : Value) (s : St) : Option (List Value × St) :=
  match v with
  | .slice (some a) _ _ => ldCs s a (n * size)
  | .slice none _ _ => if n * size = 0 then some ([], s) else none
  | .string b => if size = 1 ∧ n = b.size then some ((b.extract 0 n).data.toList.map (fun x => .int .u8 x.toNat), s) else none
  | _ => none
theorem firstC_shape {size n : Nat} {v : Value} {s s1 : St} {l : List Value} (h : firstC size n v s = some (l, s1)) : (s1 = s ∨ ∃ b, s1 = s.rd b) ∧ l.length = n * size := by
  unfold firstC at h
  split at h
  · obtain ⟨h1, h2⟩ := ldCs_shape h
    exact ⟨h1.imp id (fun e => ⟨_, e⟩), h2⟩
  · split at h
    · rename_i h0
      injection h with h; injection h with h1 h2; subst h1 h2; exact ⟨.inl rfl, by simpa using h0.symm⟩
    · cases h
  · split at h
    · rename_i h0
      injection h with h; injection h with h1 h2; subst h1 h2
      refine ⟨.inl rfl, ?_⟩
      obtain ⟨h1, h2⟩ := h0
      subst h1 h2
      simp
    · cases h
  · cases h
theorem firstC_read (P : Program) {size n : Nat} {v : Value} {s s1 : St} {l : List Value} (h : firstC size n v s = some (l, s1)) {F : Nat} (hF : Sub s1.fp F) {ρ : Map} {w : World} (hi : Inv F ρ s w) {v' : Value} (hv : VRel ρ v v') :
    ∃ r, (∀ wd : World, wd.heap = w.heap → (Builtin.firstCells size n v').run P wd = .ok r wd) ∧ ARel ρ ⟨l⟩ r := by
  unfold firstC at h
  split at h
  · obtain ⟨a', c', e, hr⟩ := hv.slice_inv
    subst e
    exact ldCs_read P h hF hi hr
  · split at h
    · injection h with h; injection h with h1 h2; subst h1 h2
      cases hv
      exact ⟨#[], fun _ _ => rfl, rfl, fun i h1 _ => by simp at h1⟩
    · cases h
  · split at h
    · injection h with h; injection h with h1 h2; subst h1 h2
      have e := hv.string_inv
      subst e
      refine ⟨_, fun _ _ => rfl, ?_⟩
      refine ⟨by simp, fun i h1 h2 => ?_⟩
      simp
      exact .int _ _
    · cases h
  · cases h
theorem Mono.rd {s s1 : St} (h : s1 = s ∨ ∃ b, s1 = s.rd b) : Mono s s1 := by
  rcases h with e | ⟨b, e⟩ <;> subst e
  · exact .refl _
  · exact s.rd_mono b
theorem Inv.rd {F : Nat} {ρ : Map} {s s1 : St} {w : World} (hi : Inv F ρ s w) (h : s1 = s ∨ ∃ b, s1 = s.rd b) : Inv F ρ s1 w := by
  rcases h with e | ⟨b, e⟩ <;> subst e
  · exact hi
  · exact ⟨hi.at_, hi.inj, hi.lt⟩
theorem Ext.rd {W : Nat} {ρ : Map} {s s1 : St} {w : World} (h : s1 = s ∨ ∃ b, s1 = s.rd b) : Ext W ρ ρ s s1 w w := by
  rcases h with e | ⟨b, e⟩ <;> subst e
  · exact .refl _ _ _ _
  · exact ⟨.refl _, Nat.le_refl _, fun _ _ _ => rfl, fun _ _ _ => rfl, fun _ _ => rfl, fun _ _ => .inl rfl, fun _ _ _ => rfl, Nat.le_refl _, fun b c h1 h2 => absurd h1 (by simp only [St.rd] at h2; omega), rfl, rfl, rfl⟩
theorem Inv.drew {F : Nat} {ρ : Map} {s : St} {w w1 : World} (hi : Inv F ρ s w) (h : w1.heap = w.heap) : Inv F ρ s w1 :=
  ⟨fun b h1 h2 => (hi.at_ b h1 h2).keep (.refl _) rfl (fun b' _ => by rw [h]), hi.inj, fun b x hx => by rw [h]; exact hi.lt b x hx⟩

theorem firstC_ok (P : Program) {size n : Nat} {v : Value} {s s1 : St} {l : List Value} (h : firstC size n v s = some (l, s1)) :
    Simu P s s1 (fun ρ v' => VRel ρ v v') (fun v' => Builtin.firstCells size n v') (fun ρ r => ARel ρ ⟨l⟩ r) :=
  ⟨Mono.rd (firstC_shape h).1, fun F hF ρ w v' _ hi hv => by
    obtain ⟨r, h1, h2⟩ := firstC_read P h hF hi hv
    exact ⟨ρ, w, hi.rd (firstC_shape h).1, .rd (firstC_shape h).1, r, h1 w rfl, h2⟩⟩

/-! copy -/
def copyC (P : Program) (ev : Operand → Value) (c : Call) (s : St) : Option (NextC × St) :=
  match c.callee with
  | .builtin .copy => match c.argTypes[0]?, c.args[0]?, c.args[1]? with
    | some t, some x, some y => match P.underlying t, ev x, lenOfC (ev y) with
      | some (.slice elem), .slice base dLen _, some sl => match P.info? elem with
        | some ie => match firstC ie.size (Nat.min sl dLen) (ev y) s with
          | some (l, s1) => match base with
            | none => some (.val (.int .i64 (Nat.min sl dLen)), s1)
            | some a => match stCs s1 a l with
              | some s2 => some (.val (.int .i64 (Nat.min sl dLen)), s2)
              | none => none
          | none => none
        | none => none
      | _, _, _ => none
    | _, _, _ => none
  | _ => none
theorem lenOfC_inv {ρ : Map} {v v' : Value} {n : Nat} (h : lenOfC v = some n) (hr : VRel ρ v v') (P : Program) (w : World) : (Builtin.lenOf v').run P w = .ok n w := by
  cases hr <;> first | (cases h; done) | (simp only [lenOfC] at h; injection h with h; subst h; rfl)
theorem copy_ok (P : Program) (ev : Operand → Value) {o : Oper} {c : Call} {s s1 : St} {n : NextC} (ho : o.op = .call c) (h : copyC P ev c s = some (n, s1)) : OpOk P ev o s s1 n := by
  unfold copyC at h
  split at h
  · rename_i hc
    split at h
    · rename_i t x y ht hx hy
      have hm1 : x ∈ o.op.operands := by simp [ho, Op.operands, Call.operands, Array.mem_of_getElem? hx]
      have hm2 : y ∈ o.op.operands := by simp [ho, Op.operands, Call.operands, Array.mem_of_getElem? hy]
      split at h
      · rename_i elem base dLen cp sl hd hvx hvy
        split at h
        · rename_i ie hie
          split at h
          · rename_i l s2 hf
            have h1 : Simu P s s2 (fun ρ ev' => EvR ρ ev o.op ev') (fun ev' => Builtin.firstCells ie.size (Nat.min sl dLen) (ev' y)) (fun ρ r => ARel ρ ⟨l⟩ r) := (firstC_ok P hf).map (γ := Operand → Value) (fun ev' => ev' y) (fun ρ ev' he => he y hm2)
            have pre : ∀ {ρ ev' w}, EvR ρ ev o.op ev' → ∃ b' c', ev' x = .slice b' dLen c' ∧ b'.isSome = base.isSome ∧ (∀ a, base = some a → ∃ a', b' = some a' ∧ AdR ρ a a') ∧ (Builtin.lenOf (ev' y)).run P w = .ok sl w := by
              intro ρ ev' w he
              have q := he x hm1
              rw [hvx] at q
              have q2 := lenOfC_inv hvy (he y hm2) P w
              cases base with
              | none =>
                generalize ev' x = z at q
                cases q with
                | slNil => exact ⟨none, cp, rfl, rfl, (fun a e => by cases e), q2⟩
              | some a =>
                obtain ⟨a', c', e, hr⟩ := q.slice_inv
                exact ⟨some a', c', e, rfl, fun a0 e0 => by injection e0 with e0; subst e0; exact ⟨a', rfl, hr⟩, q2⟩
            split at h
            · injection h with h; injection h with e1 e2
              subst e1 e2
              refine h1.use id (fun _ _ => .value (.int .i64 (Nat.min sl dLen))) (fun _ _ h => h) (fun ρ w ev' he => ?_) (fun ρ ρ1 ev' r _ _ _ => .val _ _ (.int _ _))
              obtain ⟨b', c', e1, e2, _, e4⟩ := pre (w := w) he
              have e3 : b' = none := by cases b' with
                | none => rfl
                | some _ => cases e2
              subst e3
              simp only [execOp, ho, resolve, hc, Array.getElem?_map, Sem.run_bind, Sem.run_pure, Result.andThen_ok, invoke, builtin, Builtin.copy_, ht, hx, hy, Option.map_some, run_underlying_of hd, e1, e4, run_sizeOf_of hie, goInt, andThen_assoc, id]
            · rename_i a
              split at h
              · rename_i s3 hst
                injection h with h; injection h with e1 e2
                subst e1 e2
                have h2 := (stCs_ok P hst).map (γ := (Operand → Value) × Array Value) (pre' := fun ρ x => EvR ρ ev o.op x.1 ∧ ARel ρ ⟨l⟩ x.2) (fun z => (getA (z.1 x), z.2.toList)) (fun ρ q hq => ⟨by
                  obtain ⟨b', c', e1, _, e3, _⟩ := pre (w := default) hq.1
                  obtain ⟨a', e4, e5⟩ := e3 a rfl
                  subst e4
                  simp only [e1, getA]
                  exact e5, hq.2.lrel⟩)
                refine (Simu.bind (k := fun (z : Operand → Value) (r : Array Value) => storeCells (getA (z x)) r.toList) h1 (fun ρ ρ1 x hl he => he.mono hl) h2).use id (fun _ _ => .value (.int .i64 (Nat.min sl dLen))) (fun _ _ h => h) (fun ρ w ev' he => ?_) (fun ρ ρ1 ev' r _ _ _ => .val _ _ (.int _ _))
                obtain ⟨b', c', e1, _, e3, e4⟩ := pre (w := w) he
                obtain ⟨a', e5, _⟩ := e3 a rfl
                subst e5
                simp only [execOp, ho, resolve, hc, Array.getElem?_map, Sem.run_bind, Sem.run_pure, Result.andThen_ok, invoke, builtin, Builtin.copy_, ht, hx, hy, Option.map_some, run_underlying_of hd, e1, e4, run_sizeOf_of hie, goInt, andThen_assoc, id, getA]
              · cases h
          · cases h
        · cases h
      · cases h
    · cases h
  · cases h
end Go.Canon
