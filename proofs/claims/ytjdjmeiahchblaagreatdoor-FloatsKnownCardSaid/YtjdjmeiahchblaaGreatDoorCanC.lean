/-
  Loads, stores and new rows: the canonical ones and the model's.
-/
import Derived.Test.YtjdjmeiahchblaaGreatDoorCanB
namespace Go.Canon

def AdR (ρ : Map) (a a' : Addr) : Prop := ((ρ a.block).tgt = some a'.block ∧ a'.off = a.off ∧ a'.spot = a.spot) ∨ ρ a.block = .dead
theorem AdR.mono {ρ ρ1 : Map} {a a' : Addr} (h : AdR ρ a a') (hl : le ρ ρ1) : AdR ρ1 a a' := by
  rcases h with ⟨h1, h2, h3⟩ | h
  · rcases hl.tgt h1 with h4 | h4
    · exact .inl ⟨h4, h2, h3⟩
    · exact .inr h4
  · exact .inr (hl.dead h)
theorem AdR.ptr {ρ : Map} {a a' : Addr} (h : AdR ρ a a') : VRel ρ (.pointer (some a)) (.pointer (some a')) := by
  rcases h with ⟨h1, h2, h3⟩ | h
  · obtain ⟨b', o', s'⟩ := a'
    simp only at h1 h2 h3
    subst h2 h3
    exact .ptr a b' h1
  · exact .ptrDead a a' h
theorem VRel.ptr_inv {ρ : Map} {a : Addr} {v : Value} (h : VRel ρ (.pointer (some a)) v) : ∃ a', v = .pointer (some a') ∧ AdR ρ a a' := by
  cases h with
  | ptr _ b' e => exact ⟨_, rfl, .inl ⟨e, rfl, rfl⟩⟩
  | ptrDead _ a' e => exact ⟨_, rfl, .inr e⟩

theorem cell_at {w : World} {b : Nat} {c : Array Value} {e : TypeId} {f : Nat × Nat} (h : w.heap[b]? = some (.cells c e f)) (off : Nat) : w.cell? ⟨b, off, none⟩ = c[off]? := by
  simp [World.cell?, h]

theorem run_loadCellsFrom (P : Program) (w : World) (a : Addr) : ∀ (vs : List Value) (i : Nat) (acc : Array Value), (∀ j v, vs[j]? = some v → w.cell? (a.add (i + j)) = some v) →
    (loadCellsFrom a i vs.length acc).run P w = .ok (acc ++ vs.toArray) w := by
  intro vs
  induction vs with
  | nil => intro i acc _; simp [loadCellsFrom]
  | cons v vs ih =>
    intro i acc h
    simp only [List.length_cons, loadCellsFrom]
    have h0 := h 0 v rfl
    rw [Nat.add_zero] at h0
    rw [Sem.run_bind, run_load, h0]
    simp only [Result.andThen_ok]
    rw [ih (i + 1) (acc.push v) (fun j x hx => by have := h (j + 1) x (by simpa using hx); rwa [show i + 1 + j = i + (j + 1) by omega])]
    simp

theorem PRel.len {ρ : Map} {c : List Value} {c' : Array Value} (h : PRel ρ c c') : c.length ≤ c'.size := by
  apply Classical.byContradiction
  intro hn
  have hlt : c'.size < c.length := by omega
  obtain ⟨v', e, _⟩ := h c'.size c[c'.size] (List.getElem?_eq_getElem hlt)
  simp at e

def ldCs (s : St) (a : Addr) (k : Nat) : Option (List Value × St) :=
  if k = 0 then some ([], s) else
  match a.spot with
  | some _ => none
  | none => if a.block < s.n then
      match rowC (s.t.get a.block) with
      | some c => if a.off + k ≤ c.length then some ((c.drop a.off).take k, s.rd a.block) else none
      | none => none
    else none

theorem ldCs_ok (P : Program) {s s1 : St} {a : Addr} {k : Nat} {l : List Value} (h : ldCs s a k = some (l, s1)) :
    Simu P s s1 (fun ρ a' => AdR ρ a a') (fun a' => loadCells a' k) (fun ρ r => ARel ρ ⟨l⟩ r) := by
  unfold ldCs at h
  split at h
  · rename_i h0
    injection h with h; injection h with h1 h2
    subst h1 h2 h0
    exact Simu.still fun ρ w a' _ => ⟨#[], rfl, rfl, fun i h1 _ => by simp at h1⟩
  · split at h
    · cases h
    · rename_i hsp
      split at h
      · rename_i hlt
        split at h
        · rename_i c hg
          split at h
          · rename_i hle
            injection h with h; injection h with h1 h2
            subst h1 h2
            refine moves_rd s a.block fun ρ w a' ha hat hinj => ?_
            have hA := hat hlt
            obtain ⟨b', c', e, f, ht, hh, hp, hd⟩ := hA.row hg
            rcases ha with ⟨h1, h2, h3⟩ | h1
            · rw [ht] at h1
              injection h1 with h1
              have hlen := hp.len
              have hv : ((c'.toList.drop a.off).take k).length = k := by simp; omega
              refine ⟨((c'.toList.drop a.off).take k).toArray, ?_, ?_, ?_⟩
              · have := run_loadCellsFrom P w a' ((c'.toList.drop a.off).take k) 0 #[] (fun j v hj => by
                  obtain ⟨bb, oo, ss⟩ := a'
                  simp only at h1 h2 h3
                  subst h1 h2 h3
                  have ea : (⟨b', a.off, a.spot⟩ : Addr).add (0 + j) = ⟨b', a.off + j, none⟩ := by
                    unfold Addr.add
                    rw [hsp]
                    split
                    · rename_i e0
                      have : j = 0 := by omega
                      subst this; rfl
                    · rw [Nat.zero_add]
                  rw [ea, cell_at hh]
                  rw [List.getElem?_take] at hj
                  split at hj
                  · rw [List.getElem?_drop] at hj
                    simpa using hj
                  · cases hj)
                rw [hv] at this
                rw [Array.empty_append] at this
                exact this
              · simp; omega
              · intro i hi1 hi2
                simp at hi1
                obtain ⟨v', e1, e2⟩ := hp (a.off + i) c[a.off + i] (List.getElem?_eq_getElem (by omega))
                obtain ⟨q, e1⟩ := Array.getElem?_eq_some_iff.1 e1
                subst e1
                simpa using e2
            · exact absurd h1 hd
          · cases h
        · cases h
      · cases h

/-! stores -/
def setL (c : List Value) (off : Nat) : List Value → List Value
  | [] => c
  | v :: vs => setL (c.set off v) (off + 1) vs
def setA (c : Array Value) (off : Nat) : List Value → Array Value
  | [] => c
  | v :: vs => setA (c.setIfInBounds off v) (off + 1) vs
theorem setA_size (vs : List Value) : ∀ (c : Array Value) (off : Nat), (setA c off vs).size = c.size := by
  induction vs with
  | nil => intro c off; rfl
  | cons v vs ih => intro c off; rw [setA, ih]; simp
theorem setL_length (vs : List Value) : ∀ (c : List Value) (off : Nat), (setL c off vs).length = c.length := by
  induction vs with
  | nil => intro c off; rfl
  | cons v vs ih => intro c off; rw [setL, ih]; simp

/-- lists, value by value -/
def LRel (ρ : Map) : List Value → List Value → Prop
  | [], [] => True
  | v :: vs, v' :: vs' => VRel ρ v v' ∧ LRel ρ vs vs'
  | _, _ => False
theorem LRel.length {ρ : Map} : ∀ {l l' : List Value}, LRel ρ l l' → l.length = l'.length
  | [], [], _ => rfl
  | _ :: _, _ :: _, h => by simp [LRel.length h.2]
theorem ARel.lrel {ρ : Map} {x x' : Array Value} (h : ARel ρ x x') : LRel ρ x.toList x'.toList := by
  obtain ⟨l⟩ := x
  obtain ⟨l'⟩ := x'
  obtain ⟨h1, h2⟩ := h
  simp only [List.size_toArray] at h1 h2
  induction l generalizing l' with
  | nil => cases l' with
    | nil => trivial
    | cons _ _ => simp at h1
  | cons v l ih => cases l' with
    | nil => simp at h1
    | cons v' l' =>
      refine ⟨h2 0 (by simp) (by simp), ih l' (by simpa using h1) (fun i a b => ?_)⟩
      have := h2 (i + 1) (by simpa using a) (by simpa using b)
      simpa using this
theorem LRel.arel {ρ : Map} : ∀ {l l' : List Value}, LRel ρ l l' → ARel ρ ⟨l⟩ ⟨l'⟩
  | [], [], _ => ⟨rfl, fun i h _ => by simp at h⟩
  | v :: l, v' :: l', h => by
    have ih := LRel.arel h.2
    refine ⟨by simpa using ih.1, fun i a b => ?_⟩
    cases i with
    | zero => exact h.1
    | succ i => exact ih.2 i (by simpa using a) (by simpa using b)
theorem LRel.mono {ρ ρ1 : Map} (hl : le ρ ρ1) : ∀ {l l' : List Value}, LRel ρ l l' → LRel ρ1 l l'
  | [], [], _ => trivial
  | _ :: _, _ :: _, h => ⟨h.1.mono hl, LRel.mono hl h.2⟩

theorem PRel.set {ρ : Map} {c : List Value} {c' : Array Value} (h : PRel ρ c c') {off : Nat} {v v' : Value} (hv : VRel ρ v v') (hlt : off < c.length) : PRel ρ (c.set off v) (c'.setIfInBounds off v') := by
  intro i x hx
  rw [List.getElem?_set] at hx
  have hlen := h.len
  by_cases e : off = i
  · subst e
    rw [if_pos rfl, if_pos hlt] at hx
    injection hx with hx
    subst hx
    exact ⟨v', by rw [Array.getElem?_setIfInBounds, if_pos rfl, if_pos (by omega)], hv⟩
  · rw [if_neg e] at hx
    obtain ⟨x', h1, h2⟩ := h i x hx
    exact ⟨x', by rw [Array.getElem?_setIfInBounds, if_neg e]; exact h1, h2⟩
theorem PRel.setMany {ρ : Map} : ∀ {vs vs' : List Value} {c : List Value} {c' : Array Value} {off : Nat}, PRel ρ c c' → LRel ρ vs vs' → off + vs.length ≤ c.length → PRel ρ (setL c off vs) (setA c' off vs')
  | [], [], _, _, _, h, _, _ => h
  | v :: vs, v' :: vs', c, c', off, h, hv, hle => by
    simp only [List.length_cons] at hle
    exact PRel.setMany (c := c.set off v) (c' := c'.setIfInBounds off v') (off := off + 1) (PRel.set h hv.1 (by omega)) hv.2 (by simp; omega)

theorem setCell_setB {w : World} {b : Nat} {c : Array Value} {e : TypeId} (h : w.heap[b]? = some (.cells c e (0, 0))) (off : Nat) (v : Value) :
    w.setCell ⟨b, off, none⟩ v = setB w b (.cells (c.setIfInBounds off v) e (0, 0)) := by
  unfold World.setCell setB
  congr 1
  apply Array.ext_getElem?
  intro i
  rw [Array.getElem?_modify, Array.getElem?_setIfInBounds]
  by_cases hi : b = i
  · subst hi
    have hlt : b < w.heap.size := by
      rcases Nat.lt_or_ge b w.heap.size with h1 | h1
      · exact h1
      · rw [Array.getElem?_eq_none h1] at h; cases h
    rw [if_pos rfl, if_pos rfl, if_pos hlt, h]
    simp
  · simp [hi]
theorem setB_setB (w : World) (b : Nat) (o o' : Obj) : setB (setB w b o) b o' = setB w b o' := by
  unfold setB
  simp

theorem VRel.oneCell {ρ : Map} {v v' : Value} (h : VRel ρ v v') (hv : v.oneCell' = true) : v'.oneCell' = true := by
  cases h <;> first | rfl | (simp [Value.oneCell'] at hv)
theorem LRel.oneCell {ρ : Map} : ∀ {l l' : List Value}, LRel ρ l l' → l.all Value.oneCell' = true → l'.all Value.oneCell' = true
  | [], [], _, _ => rfl
  | _ :: _, _ :: _, h, k => by
    simp only [List.all_cons, Bool.and_eq_true] at k ⊢
    exact ⟨h.1.oneCell k.1, LRel.oneCell h.2 k.2⟩

theorem run_storeCells (P : Program) : ∀ (vs : List Value) (w : World) (b off i : Nat) (c : Array Value) (e : TypeId), w.heap[b]? = some (.cells c e (0, 0)) → vs.all Value.oneCell' = true → vs ≠ [] → off + i + vs.length ≤ c.size →
    (storeCells ⟨b, off, none⟩ vs i).run P w = .ok () (setB w b (.cells (setA c (off + i) vs) e (0, 0))) := by
  intro vs
  induction vs with
  | nil => intro w b off i c e _ _ h; exact absurd rfl h
  | cons v vs ih =>
    intro w b off i c e hh ha _ hle
    simp only [List.all_cons, Bool.and_eq_true] at ha
    simp only [List.length_cons] at hle
    have hb : b < w.heap.size := by
      rcases Nat.lt_or_ge b w.heap.size with h1 | h1
      · exact h1
      · rw [Array.getElem?_eq_none h1] at hh; cases hh
    have ea : (⟨b, off, none⟩ : Addr).add i = ⟨b, off + i, none⟩ := by
      unfold Addr.add
      split
      · rename_i e0; subst e0; rfl
      · rfl
    have hc : w.cell? ⟨b, off + i, none⟩ = some (c[off + i]'(by omega)) := by rw [cell_at hh]; exact Array.getElem?_eq_getElem (by omega)
    have hf : w.frozen? ⟨b, off + i, none⟩ = false := by simp [World.frozen?, hh]
    have hst : (store ((⟨b, off, none⟩ : Addr).add i) v).run P w = .ok () (setB w b (.cells (c.setIfInBounds (off + i) v) e (0, 0))) := by
      rw [run_store P w _ v .plain ha.1, ea, hc]
      simp only [hf, Bool.false_eq_true, if_false]
      rw [setCell_setB hh]
    rw [storeCells, Sem.run_bind, hst]
    simp only [Result.andThen_ok]
    cases vs with
    | nil => rfl
    | cons v2 vs =>
      have hh2 : (setB w b (.cells (c.setIfInBounds (off + i) v) e (0, 0))).heap[b]? = some (.cells (c.setIfInBounds (off + i) v) e (0, 0)) := by rw [setB_heap _ _ _ _ hb, if_pos rfl]
      rw [ih _ b off (i + 1) _ e hh2 ha.2 (by simp) (by simp at hle ⊢; omega), setB_setB]
      rfl

def stCs (s : St) (a : Addr) (vs : List Value) : Option St :=
  if vs.isEmpty then some s else
  match a.spot with
  | some _ => none
  | none => if decide (a.block < s.n) && decide (a.block + 1 < 2 ^ 40) then
      match s.t.get a.block with
      | some (.cells c e sf) => if decide (a.off + vs.length ≤ c.length) && vs.all Value.oneCell' then some (s.wr a.block (.cells (setL c a.off vs) e sf)) else none
      | _ => none
    else none

theorem stCs_ok (P : Program) {s s1 : St} {a : Addr} {vs : List Value} (h : stCs s a vs = some s1) :
    Simu P s s1 (fun ρ (x : Addr × List Value) => AdR ρ a x.1 ∧ LRel ρ vs x.2) (fun x => storeCells x.1 x.2) (fun _ _ => True) := by
  unfold stCs at h
  split at h
  · rename_i h0
    injection h with h
    subst h
    refine Simu.still fun ρ w x hx => ⟨(), ?_, trivial⟩
    obtain ⟨a', vs'⟩ := x
    have : vs' = [] := by
      cases vs with
      | nil => cases vs' with
        | nil => rfl
        | cons _ _ => exact hx.2.elim
      | cons _ _ => simp at h0
    subst this
    rfl
  · rename_i hne
    split at h
    · cases h
    · rename_i hsp
      split at h
      · rename_i hlt
        simp only [Bool.and_eq_true, decide_eq_true_eq] at hlt
        split at h
        · rename_i c e sf hg
          split at h
          · rename_i hle
            simp only [Bool.and_eq_true, decide_eq_true_eq] at hle
            injection h with h
            subst h
            -- the relation, whatever it is, from a world's block
            have key : ∀ (ρ : Map) (w : World) (b' : Nat) (c' : Array Value), (ρ a.block).tgt = some b' → ρ a.block ≠ .dead → w.heap[b']? = some (.cells c' e (0, 0)) → PRel ρ c c' →
                ∀ x : Addr × List Value, (AdR ρ a x.1 ∧ LRel ρ vs x.2) → (storeCells x.1 x.2).run P w = .ok () (setB w b' (.cells (setA c' a.off x.2) e (0, 0))) := by
              intro ρ w b' c' ht hd hh hp x hx
              obtain ⟨⟨bb, oo, ss⟩, vs'⟩ := x
              obtain ⟨ha, hv⟩ := hx
              rcases ha with ⟨h1, h2, h3⟩ | h1
              · rw [ht] at h1
                injection h1 with h1
                simp only at h1 h2 h3
                rw [hsp] at h3
                subst h1 h2 h3
                have hl : vs.length = vs'.length := hv.length
                have := hp.len
                have := run_storeCells P vs' w b' a.off 0 c' e hh (hv.oneCell hle.2) (by
                  intro e0; subst e0
                  cases vs with
                  | nil => simp at hne
                  | cons _ _ => simp at hl) (by omega)
                simpa using this
              · exact absurd h1 hd
            refine moves_wr s a.block _ hlt.1 hlt.2 fun ρ w x hx hA => ?_
            rw [hg] at hA
            have hlx := hx.2.length
            cases hA with
            | hard _ _ b' c' h1 h2 h3 h4 =>
              have ht : (ρ a.block).tgt = some b' := by rw [h1]; rfl
              have hd : ρ a.block ≠ .dead := by rw [h1]; intro q; cases q
              refine ⟨b', .cells (setA c' a.off x.2) e (0, 0), ht, fun w1 hw1 => .hard _ e b' _ h1 hw1 (by rw [setA_size, setL_length]; exact h3) (h4.setMany hx.2 hle.1), (), key ρ w b' c' ht hd h2 h4 x hx, trivial⟩
            | soft _ _ es b' c' h1 h2 h4 =>
              have ht : (ρ a.block).tgt = some b' := by rw [h1]; rfl
              have hd : ρ a.block ≠ .dead := by rw [h1]; intro q; cases q
              refine ⟨b', .cells (setA c' a.off x.2) e (0, 0), ht, fun w1 hw1 => .soft _ e es b' _ (by rw [setA_size]; exact h1) hw1 (h4.setMany hx.2 hle.1), (), key ρ w b' c' ht hd h2 h4 x hx, trivial⟩
          · cases h
        · cases h
      · cases h

/-- a new row of cells -/
def newC (s : St) (cs : List Value) (e : TypeId) : Option (Addr × St) := if s.n + 1 < 2 ^ 40 then some (⟨s.n, 0, none⟩, s.add (.cells cs e 0)) else none

theorem newC_ok (P : Program) {s s1 : St} {cs : List Value} {e : TypeId} {a : Addr} (h : newC s cs e = some (a, s1)) :
    Simu P s s1 (fun ρ x => ARel ρ ⟨cs⟩ x) (fun x => newRow e x) (fun ρ a' => ρ a.block = .hard a'.block ∧ a.off = 0 ∧ a.spot = none ∧ a'.off = 0 ∧ a'.spot = none) := by
  unfold newC at h
  split at h
  · rename_i hn
    injection h with h; injection h with h1 h2
    subst h1 h2
    refine moves_add s _ hn fun ρ w x hx => ⟨.hard w.heap.size, .cells x e, rfl, fun ρ1 w1 hl h1 h2 => .hard cs e _ x h1 h2 (by have := hx.1; simp at this; exact this.symm) (hx.prel.mono hl), fun _ => ⟨⟨w.heap.size, 0, none⟩, rfl, Map.put_self _ _ _, rfl, rfl, rfl, rfl⟩⟩
  · cases h
end Go.Canon
