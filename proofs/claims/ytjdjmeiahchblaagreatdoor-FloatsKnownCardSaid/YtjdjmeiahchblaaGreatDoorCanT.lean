/-
  The canonical run of a frame, and that the model's machine does the same.
-/
import Derived.Test.YtjdjmeiahchblaaGreatDoorCanS
namespace Go.Canon

def run (P : Program) : Nat → CF → St → Option (Value × St)
  | 0, _, _ => none
  | f + 1, fr, s =>
    match fr.todo with
    | [] => leaveC P fr none s
    | .code .ret :: _ => leaveC P fr (some .ret) s
    | .code .skip :: k => run P f { fr with todo := k } s
    | .code (.label _) :: k => run P f { fr with todo := k } s
    | .code (.seq x y) :: k => run P f { fr with todo := .code x :: .code y :: k } s
    | .code (.cond c x y) :: k => if okOper P c then match evT fr.tm c with
        | .bool t => run P f { fr with todo := .code (if t then x else y) :: k } s
        | _ => none
      else none
    | .code (.block id c) :: k => run P f { fr with todo := .code c :: .inBlock id :: k } s
    | .code (.loop c) :: k => run P f { fr with todo := .code c :: .inLoop c :: k } s
    | .code (.scope c) :: k => run P f { fr with todo := .code c :: .inScope c :: k } s
    | .code (.exit id) :: k => match exitTo id k with
      | some k' => run P f { fr with todo := k' } s
      | none => leaveC P fr (some (.exit id)) s
    | .code (.goto t) :: k => match gotoIn t k with
      | some k' => run P f { fr with todo := k' } s
      | none => leaveC P fr (some (.goto t)) s
    | .code (.region _ ops false) :: k => match doOps P (run P f) ops fr.sz ops.toList fr.tm s with
      | some (tm, s1) => run P f { fr with tm := tm, todo := k } s1
      | none => none
    | .code (.region _ ops true) :: k => if okRegion ops then match doOpsD P (run P f) ops fr.sz ops.toList fr.tm s with
        | some (l, tm, s1) => if confAll (bef ops) [] l then run P f { fr with tm := tm, todo := k } s1 else none
        | none => none
      else none
    | .code (.rangeFunc g ps as bo) :: k => if okOper P g then match enterLoopC s fr.fn fr.tm fr.sz ps as bo fr.ro with
        | some (l, mark, s1) => match evT fr.tm g with
          | .func (.func gf) first cap => match enterC P gf (first ++ #[.func (.yield l) #[] #[]] ++ cap) with
            | some gr => match run P f gr s1 with
              | some (_, s2) => match endLoopC s2 l with
                | some (jump, s3) => run P f { fr with defers := mark ++ fr.defers, todo := (jump.map Item.code).toList ++ k } s3
                | none => none
              | none => none
            | none => none
          | _ => none
        | none => none
      else none
    | .inBlock _ :: k => run P f { fr with todo := k } s
    | .inScope _ :: k => run P f { fr with todo := k } s
    | .inLoop c :: k => run P f { fr with todo := .code c :: .inLoop c :: k } s
    | .beginRound :: k => match fr.ro with
      | some l => match beginRoundC s l with
        | some s1 => run P f { fr with todo := k } s1
        | none => none
      | none => none
    | _ => none

theorem DRel.append {ρ : Map} : ∀ {a b : List Nat} {a' b' : List Deferred}, DRel ρ a a' → DRel ρ b b' → DRel ρ (a ++ b) (a' ++ b')
  | [], _, [], _, _, h => h
  | _ :: _, _, _ :: _, _, ⟨h1, h2⟩, h => ⟨h1, DRel.append h2 h⟩

theorem run_ok {P : Program} (hP : NG P) (hm : P.follows .mixedOrders = true) : ∀ f, RunOk P (run P f) := by
  intro f
  induction f with
  | zero => intro fr s v s1 h; cases h
  | succ f ih =>
    -- a step that leaves the world alone
    have step1 : ∀ {fr : CF} {s s1 : St} {v : Value} (k' : List Item), run P f { fr with todo := k' } s = some (v, s1) →
        (∀ ρ b a w, GR P ρ → FRel ρ fr b a → ∀ cs, step P (lone (b.atR a fr.todo) cs w) = .next (lone (b.atR a k') cs w)) →
        Mono s s1 ∧ ∀ F, Sub s1.fp F → ∀ ρ w b a, Fresh ρ s s1 → Inv F ρ s w → GR P ρ → FRel ρ fr b a → ∃ ρ1 w1 v', Inv F ρ1 s1 w1 ∧ Ext s1.w ρ ρ1 s s1 w w1 ∧ VRel ρ1 v v' ∧ Ends P (b.atR a fr.todo) w v' w1 := by
      intro fr s s1 v k' h hs
      obtain ⟨m, hm⟩ := ih _ _ _ _ h
      refine ⟨m, fun F hF ρ w b a hf hi hg hfr => ?_⟩
      obtain ⟨ρ1, w1, v', i1, e1, hv, hend⟩ := hm F hF ρ w b a hf hi hg ⟨hfr.fn, hfr.kind, hfr.ro, hfr.tm, hfr.defers⟩
      exact ⟨ρ1, w1, v', i1, e1, hv, hend.of_steps rfl rfl fun cs => .one (hs ρ b a w hg hfr cs)⟩
    intro fr s v s1 h
    unfold run at h
    split at h
    · rename_i ht
      obtain ⟨m, hl⟩ := leaveC_ok P h (.inl ⟨rfl, ht⟩)
      exact ⟨m, fun F hF ρ w b a hf hi _ hfr => hl F hF ρ w b a hf hi hfr⟩
    · rename_i k ht
      obtain ⟨m, hl⟩ := leaveC_ok P h (.inr (.inl ⟨rfl, k, ht⟩))
      exact ⟨m, fun F hF ρ w b a hf hi _ hfr => hl F hF ρ w b a hf hi hfr⟩
    · rename_i k ht; exact step1 _ h fun ρ b a w _ _ cs => by rw [ht]; exact stepR_skip
    · rename_i l k ht; exact step1 _ h fun ρ b a w _ _ cs => by rw [ht]; exact stepR_label
    · rename_i x y k ht; exact step1 _ h fun ρ b a w _ _ cs => by rw [ht]; exact stepR_seq
    · rename_i c x y k ht
      split at h
      · rename_i hok
        split at h
        · rename_i t hc
          refine step1 _ h fun ρ b a w hg hfr cs => ?_
          rw [ht]
          have h1 := evT_rel hg (tm := fr.tm) (a := a) (x := c) (fun t _ => hfr.tm.2 t) hok
          rw [hc] at h1
          exact stepR_cond h1.bool_inv
        · cases h
      · cases h
    · rename_i id c k ht; exact step1 _ h fun ρ b a w _ _ cs => by rw [ht]; exact stepR_block
    · rename_i c k ht; exact step1 _ h fun ρ b a w _ _ cs => by rw [ht]; exact stepR_loop
    · rename_i c k ht; exact step1 _ h fun ρ b a w _ _ cs => by rw [ht]; exact stepR_scope
    · rename_i id k ht
      split at h
      · rename_i k' hk; exact step1 _ h fun ρ b a w _ _ cs => by rw [ht]; exact stepR_exit hk
      · rename_i hk
        obtain ⟨m, hl⟩ := leaveC_ok P h (.inr (.inr (.inl ⟨id, k, rfl, ht, hk⟩)))
        exact ⟨m, fun F hF ρ w b a hf hi _ hfr => hl F hF ρ w b a hf hi hfr⟩
    · rename_i t k ht
      split at h
      · rename_i k' hk; exact step1 _ h fun ρ b a w _ _ cs => by rw [ht]; exact stepR_goto hk
      · rename_i hk
        obtain ⟨m, hl⟩ := leaveC_ok P h (.inr (.inr (.inr ⟨t, k, rfl, ht, hk⟩)))
        exact ⟨m, fun F hF ρ w b a hf hi _ hfr => hl F hF ρ w b a hf hi hfr⟩
    · rename_i id ops k ht
      split at h
      · rename_i tm s2 hops
        obtain ⟨m1, h1⟩ := doOps_ok hP ih ops.toList 0 fr.tm tm s s2 rfl (by simp) hops
        obtain ⟨m2, h2⟩ := ih _ _ _ _ h
        refine ⟨m1.trans m2, fun F hF ρ w b a hf hi hg hfr => ?_⟩
        obtain ⟨ρ1, w1, a1, i1, e1, ht1, hd1, hst⟩ := h1 F (m2.fp.trans hF) ρ w a (hf.fst m2.n) hi hg hfr.tm
        have hfr1 := hfr.mono e1.le
        obtain ⟨ρ2, w2, v', i2, e2, hv, hend⟩ := h2 F hF ρ1 w1 b a1 (hf.snd e1) i1 (hg.mono e1.le) ⟨hfr1.fn, hfr1.kind, hfr1.ro, ht1, by rw [hd1]; exact hfr1.defers⟩
        refine ⟨ρ2, w2, v', i2, (e1.wider m2.w).trans e2, hv, hend.of_steps rfl rfl fun cs => ?_⟩
        rw [ht]
        have := hst b k cs
        rw [Array.length_toList, ← List.range_eq_range'] at this
        exact .head stepR_region this
      · cases h
    · rename_i id ops k ht
      split at h
      · rename_i hok
        split at h
        · rename_i l tm s2 hops
          split at h
          · rename_i hc
            obtain ⟨m1, h1⟩ := doOpsD_ok hP hm ih hops hok hc
            obtain ⟨m2, h2⟩ := ih _ _ _ _ h
            refine ⟨m1.trans m2, fun F hF ρ w b a hf hi hg hfr => ?_⟩
            obtain ⟨ρ1, w1, a1, i1, e1, ht1, hd1, hst⟩ := h1 F (m2.fp.trans hF) ρ w a (hf.fst m2.n) hi hg hfr.tm id b.fn
            have hfr1 := hfr.mono e1.le
            obtain ⟨ρ2, w2, v', i2, e2, hv, hend⟩ := h2 F hF ρ1 w1 b a1 (hf.snd e1) i1 (hg.mono e1.le) ⟨hfr1.fn, hfr1.kind, hfr1.ro, ht1, by rw [hd1]; exact hfr1.defers⟩
            refine ⟨ρ2, w2, v', i2, (e1.wider m2.w).trans e2, hv, hend.of_steps rfl rfl fun cs => ?_⟩
            rw [ht]
            exact hst b k cs rfl
          · cases h
        · cases h
      · cases h
    · rename_i g ps as bo k ht
      split at h
      · rename_i hok
        split at h
        · rename_i l mark s2 hel
          split at h
          · rename_i gf first cap hg0
            split at h
            · rename_i gr hgr
              split at h
              · rename_i v2 s3 hrun
                split at h
                · rename_i jump s4 hend
                  obtain ⟨m1, h1⟩ := enterLoopC_ok P hel
                  obtain ⟨m2, h2⟩ := ih _ _ _ _ hrun
                  obtain ⟨m3, h3⟩ := endLoopC_ok P hend
                  obtain ⟨m4, h4⟩ := ih _ _ _ _ h
                  have hbody : ∃ fn c, P.funcs[gf]? = some fn ∧ fn.body = some c := by
                    unfold enterC at hgr
                    split at hgr
                    · rename_i fn hf
                      split at hgr
                      · rename_i c hc; exact ⟨fn, c, hf, hc⟩
                      · cases hgr
                    · cases hgr
                  obtain ⟨fn0, c0, hf0, hc0⟩ := hbody
                  refine ⟨((m1.trans m2).trans m3).trans m4, fun F hF ρ w b a hf hi hg hfr => ?_⟩
                  have F3 := m4.fp.trans hF
                  have F2 := m3.fp.trans F3
                  have F1 := m2.fp.trans F2
                  have fr0 : Fresh ρ s s4 := hf.fst m4.n
                  obtain ⟨ρ1, w1, i1, e1, l', mark', r1, r2, r3⟩ := h1 F F1 ρ w (a.tmps, b.roundOf) ((fr0.fst m3.n).fst m2.n) hi ⟨hfr.tm, hfr.ro⟩
                  have hgv := evT_rel (hg.mono e1.le) (tm := fr.tm) (a := a) (x := g) (fun t _ => (hfr.tm.mono e1.le).2 t) hok
                  rw [hg0] at hgv
                  obtain ⟨x', y', hx, hx1, hx2⟩ := hgv.func_inv
                  have hy : ARel ρ1 #[.func (.yield l) #[] #[]] #[.func (.yield l') #[] #[]] := LRel.arel (l := [.func (.yield l) #[] #[]]) (l' := [.func (.yield l') #[] #[]]) ⟨.yield l l' r2, trivial⟩
                  obtain ⟨b2, a2, hb2, hr2⟩ := enterC_ok hgr ((hx1.append hy).append hx2)
                  obtain ⟨ρ2, w2, u', i2, e2, _, hend2⟩ := h2 F F2 ρ1 w1 b2 a2 ((fr0.fst m3.n).snd e1) i1 (hg.mono e1.le) hr2
                  have e12 := (e1.wider m2.w).trans e2
                  obtain ⟨ρ3, w3, i3, e3, rfl, hl3⟩ := h3 F F3 ρ2 w2 () (fr0.snd e12) i2 trivial
                  have e123 := (e12.wider m3.w).trans e3
                  have hfr3 := hfr.mono e123.le
                  obtain ⟨ρ4, w4, v', i4, e4, hv, hend4⟩ := h4 F hF ρ3 w3 b { a with defers := mark' ++ a.defers } (hf.snd e123) i3 (hg.mono e123.le)
                    ⟨hfr3.fn, hfr3.kind, hfr3.ro, hfr3.tm, (r3.mono (e2.le.trans e3.le)).append hfr3.defers⟩
                  refine ⟨ρ4, w4, v', i4, (e123.wider m4.w).trans e4, hv, hend4.of_steps rfl rfl fun cs => ?_⟩
                  rw [ht]
                  have hinv : (do let d ← resolve a.eval { callee := .value g, args := #[.const (.func (.yield l') #[] #[])], argTypes := #[] } 0; invoke d.target d.args : Sem Next).run P w1 = .ok (.enter gf (x' ++ #[.func (.yield l') #[] #[]] ++ y')) w1 := by
                    have em : (#[Operand.const (.func (.yield l') #[] #[])] : Array Operand).map a.eval = #[.func (.yield l') #[] #[]] := by simp [Act.eval]
                    simp only [resolve, em, hx, Deferred.ofValue, invoke, Sem.run_bind, Sem.run_pure, Result.andThen_ok, run_callFunc hP hf0 (by rw [hc0]; rfl)]
                  have rr : (Instr.enterLoop b.fn a.tmps ps as bo b.roundOf).run P w = .ok (l', mark') w1 := by rw [hfr.fn]; exact r1
                  have s1' := stepR_rangeFunc (cs := cs) (k := k) (b := b) (a := a) rr hinv
                  rw [hb2] at s1'
                  refine (Steps.head s1' (hend2.back _ cs)).trans (.one ?_)
                  exact stepR_endRangeFunc (b := b) (a := { a with defers := mark' ++ a.defers }) (hl3 l' (le.hard e2.le r2))
                · cases h
              · cases h
            · cases h
          · cases h
        · cases h
      · cases h
    · rename_i id k ht; exact step1 _ h fun ρ b a w _ _ cs => by rw [ht]; exact stepR_inBlock
    · rename_i c k ht; exact step1 _ h fun ρ b a w _ _ cs => by rw [ht]; exact stepR_inScope
    · rename_i c k ht; exact step1 _ h fun ρ b a w _ _ cs => by rw [ht]; exact stepR_inLoop
    · rename_i k ht
      split at h
      · rename_i l hro
        split at h
        · rename_i s2 hb
          obtain ⟨m1, h1⟩ := beginRoundC_ok P hb
          obtain ⟨m2, h2⟩ := ih _ _ _ _ h
          refine ⟨m1.trans m2, fun F hF ρ w b a hf hi hg hfr => ?_⟩
          obtain ⟨ρ1, w1, i1, e1, rfl, hr⟩ := h1 F (m2.fp.trans hF) ρ w () (hf.fst m2.n) hi trivial
          obtain ⟨ρ2, w2, v', i2, e2, hv, hend⟩ := h2 F hF ρ1 w1 b a (hf.snd e1) i1 hg ⟨hfr.fn, hfr.kind, hfr.ro, hfr.tm, hfr.defers⟩
          refine ⟨ρ2, w2, v', i2, (e1.wider m2.w).trans e2, hv, hend.of_steps rfl rfl fun cs => ?_⟩
          rw [ht]
          rcases hfr.ro with ⟨h3, _⟩ | ⟨l2, l', h3, h4, h5⟩
          · rw [hro] at h3; cases h3
          · rw [hro] at h3
            injection h3 with h3
            subst h3
            exact .one (stepR_beginRound h4 (hr l' h5))
        · cases h
      · cases h
    · cases h
end Go.Canon
