/-
  A picture of the memory between two pieces, what it forgets, and the whole call out of its pieces.
-/
import Derived.Test.YtjdjmeiahchblaaGreatDoorCanW
namespace Go.Canon
open Go.RowKit

def eqL (e : Value → Value → Bool) : List Value → List Value → Bool
  | [], [] => true
  | a :: x, b :: y => match e a b with
    | true => eqL e x y
    | false => false
  | _, _ => false
theorem eqL_ok {e : Value → Value → Bool} (he : ∀ a b, e a b = true → a = b) : ∀ {x y : List Value}, eqL e x y = true → x = y
  | [], [], _ => rfl
  | a :: x, b :: y, h => by
    simp only [eqL] at h
    split at h
    · rename_i h1; rw [he _ _ h1, eqL_ok he h]
    · cases h
  | [], _ :: _, h => by cases h
  | _ :: _, [], h => by cases h
def eqAd (a b : Addr) : Bool := a.block == b.block && a.off == b.off && a.spot.isNone && b.spot.isNone
theorem eqAd_ok {a b : Addr} (h : eqAd a b = true) : a = b := by
  obtain ⟨a1, a2, a3⟩ := a
  obtain ⟨b1, b2, b3⟩ := b
  simp only [eqAd, Bool.and_eq_true, beq_iff_eq, Option.isNone_iff_eq_none] at h
  obtain ⟨⟨⟨rfl, rfl⟩, rfl⟩, rfl⟩ := h
  rfl
def eqV : Nat → Value → Value → Bool
  | 0, _, _ => false
  | _ + 1, .bool a, .bool b => a == b
  | _ + 1, .int k a, .int l b => decide (k = l) && decide (a = b)
  | _ + 1, .string a, .string b => decide (a.data = b.data)
  | _ + 1, .pointer none, .pointer none => true
  | _ + 1, .pointer (some a), .pointer (some b) => eqAd a b
  | _ + 1, .slice none l c, .slice none m d => l == m && c == d
  | _ + 1, .slice (some a) l c, .slice (some b) m d => eqAd a b && l == m && c == d
  | _ + 1, .nilIface, .nilIface => true
  | _ + 1, .nilFunc, .nilFunc => true
  | d + 1, .iface t a, .iface u b => t == u && eqV d a b
  | d + 1, .agg a, .agg b => eqL (eqV d) a.toList b.toList
  | d + 1, .tuple a, .tuple b => eqL (eqV d) a.toList b.toList
  | d + 1, .func (.func f) x y, .func (.func g) u v => f == g && eqL (eqV d) x.toList u.toList && eqL (eqV d) y.toList v.toList
  | _, _, _ => false
theorem eqV_ok : ∀ (d : Nat) (a b : Value), eqV d a b = true → a = b
  | 0, _, _, h => by cases h
  | d + 1, a, b, h => by
    unfold eqV at h
    split at h <;> first | (cases h; done) | skip
    · simp only [beq_iff_eq] at h; rw [h]
    · simp only [Bool.and_eq_true, decide_eq_true_eq] at h; rw [h.1, h.2]
    · rw [ByteArray.ext (of_decide_eq_true h)]
    · rfl
    · rw [eqAd_ok h]
    · simp only [Bool.and_eq_true, beq_iff_eq] at h; rw [h.1, h.2]
    · simp only [Bool.and_eq_true, beq_iff_eq] at h; rw [eqAd_ok h.1.1, h.1.2, h.2]
    · rfl
    · rfl
    · rename_i hd; injection hd with hd; subst hd; simp only [Bool.and_eq_true, beq_iff_eq] at h; rw [h.1, eqV_ok _ _ _ h.2]
    · rename_i hd; injection hd with hd; subst hd; rw [Array.ext' (eqL_ok (eqV_ok _) h)]
    · rename_i hd; injection hd with hd; subst hd; rw [Array.ext' (eqL_ok (eqV_ok _) h)]
    · rename_i hd; injection hd with hd; subst hd; simp only [Bool.and_eq_true, beq_iff_eq] at h
      rw [h.1.1, Array.ext' (eqL_ok (eqV_ok _) h.1.2), Array.ext' (eqL_ok (eqV_ok _) h.2)]
def eqO : CObj → CObj → Bool
  | .cells c e f, .cells d g k => e == g && f == k && eqL (eqV 9) c d
  | .ro c, .ro d => eqL (eqV 9) c d
  | .dead, .dead => true
  | _, _ => false
theorem eqO_ok {a b : CObj} (h : eqO a b = true) : a = b := by
  unfold eqO at h
  split at h
  · simp only [Bool.and_eq_true, beq_iff_eq] at h; rw [h.1.1, h.1.2, eqL_ok (eqV_ok 9) h.2]
  · rw [eqL_ok (eqV_ok 9) h]
  · rfl
  · cases h

def fillP {α : Type} : List (Nat × α) → Tree α → Tree α
  | [], t => t
  | p :: l, t => fillP l (t.set 40 p.1 p.2)
theorem fillP_get {α : Type} : ∀ (l : List (Nat × α)) (t : Tree α) (b : Nat), (∀ p ∈ l, p.1 + 1 < 2 ^ 40) → (fillP l t).get b = t.get b ∨ ∃ p ∈ l, p.1 = b ∧ (fillP l t).get b = some p.2
  | [], _, _, _ => .inl rfl
  | p :: l, t, b, h => by
    rw [fillP]
    rcases fillP_get l (t.set 40 p.1 p.2) b (fun q hq => h q (by simp [hq])) with h1 | ⟨q, h1, h2, h3⟩
    · rw [h1, Tree.get_set 40 _ _ _ _ (h p (by simp))]
      by_cases e : b = p.1
      · rw [if_pos e]; exact .inr ⟨p, by simp, e.symm, rfl⟩
      · rw [if_neg e]; exact .inl rfl
    · exact .inr ⟨q, by simp [h1], h2, h3⟩

/-- what lies between two pieces: values by number, blocks by number, the next block -/
structure Pic where
  vs : List (Nat × Value)
  bs : List (Nat × CObj)
  n : Nat
def Pic.tm (p : Pic) : Tree Value := fillP p.vs .leaf
def Pic.st (p : Pic) : St := { t := fillP p.bs .leaf, n := p.n, r := 0, w := 0 }
def allUp (g : Nat → Bool) : Nat → Bool
  | 0 => true
  | n + 1 => match g n with
    | true => allUp g n
    | false => false
theorem allUp_ok {g : Nat → Bool} : ∀ {n : Nat}, allUp g n = true → ∀ i, i < n → g i = true
  | 0, _, _, hi => absurd hi (by omega)
  | n + 1, h, i, hi => by
    simp only [allUp] at h
    split at h
    · rename_i h1
      by_cases e : i = n
      · rw [e]; exact h1
      · exact allUp_ok h i (by omega)
    · cases h
def allL {α : Type} (g : α → Bool) : List α → Bool
  | [] => true
  | a :: l => match g a with
    | true => allL g l
    | false => false
theorem allL_ok {α : Type} {g : α → Bool} : ∀ {l : List α}, allL g l = true → ∀ a ∈ l, g a = true
  | [], _, _, h => by cases h
  | b :: l, h, a, ha => by
    simp only [allL] at h
    split at h
    · rename_i h1
      cases ha with
      | head _ => exact h1
      | tail _ h2 => exact allL_ok h a h2
    · cases h
def eqTm (a b : Option Value) : Bool :=
  match a, b with
  | some x, some y => eqV 9 x y
  | none, none => true
  | _, _ => false
theorem eqTm_ok {a b : Option Value} (h : eqTm a b = true) : a = b := by
  unfold eqTm at h
  split at h
  · rw [eqV_ok 9 _ _ h]
  · rfl
  · cases h
def Pic.of (p : Pic) (sz : Nat) (tm : Tree Value) (s : St) : Bool :=
  Nat.beq p.n s.n && (allL (fun q => Nat.ble (q.1 + 1) sz && Nat.ble (q.1 + 2) 1099511627776) p.vs && (allUp (fun i => eqTm (tm.get i) (p.tm.get i)) sz &&
    allL (fun q => Nat.ble (q.1 + 2) 1099511627776 && match s.t.get q.1 with | some o => eqO o q.2 | none => false) p.bs))

/-- the world answers the whole of a state -/
def InvA (ρ : Map) (s : St) (w : World) : Prop := ∀ F, Inv F ρ s w
theorem Pic.of_ok {p : Pic} {sz : Nat} {tm : Tree Value} {s : St} (h : p.of sz tm s = true) {ρ : Map} {w : World} {x : Array Value} (hi : InvA ρ s w) (ht : TRel ρ tm sz x) : p.n = s.n ∧ InvA ρ p.st w ∧ TRel ρ p.tm sz x := by
  unfold Pic.of at h
  simp only [Bool.and_eq_true, Nat.beq_eq] at h
  obtain ⟨hn, hv, hu, hb⟩ := h
  have hv := allL_ok hv
  have hu := allUp_ok hu
  have hb := allL_ok hb
  refine ⟨hn, fun F => ⟨fun b hlt hF => ?_, (hi F).inj, (hi F).lt⟩, ht.1, fun t => ?_⟩
  · rcases fillP_get p.bs .leaf b (fun q hq => by have := hb q hq; simp only [Bool.and_eq_true, Nat.ble_eq] at this; omega) with h1 | ⟨q, h1, h2, h3⟩
    · show At ρ w b ((fillP p.bs .leaf).get b)
      rw [h1, Tree.get_leaf]; exact .none
    · show At ρ w b ((fillP p.bs .leaf).get b)
      have h4 := hb q h1
      rw [Bool.and_eq_true] at h4
      have h5 := h4.2
      split at h5
      · rename_i o ho
        have h6 := eqO_ok h5
        rw [h3, ← h6, ← ho, h2]
        exact (hi F).at_ b (by simpa [Pic.st, hn] using hlt) hF
      · cases h5
  · by_cases hlt : t < sz
    · have h1 := eqTm_ok (hu t hlt)
      rw [← h1]
      exact ht.2 t
    · rcases fillP_get p.vs .leaf t (fun q hq => by have := hv q hq; simp only [Bool.and_eq_true, Nat.ble_eq] at this; omega) with h1 | ⟨q, h1, h2, h3⟩
      · show VRel ρ (((fillP p.vs .leaf).get t).getD undef) _
        rw [h1, Tree.get_leaf]
        have : x.getD t undef = undef := by
          rw [Array.getD_eq_getD_getElem?, Array.getElem?_eq_none (by rw [ht.1]; omega)]
          rfl
        rw [this]
        exact undef_rel ρ
      · have := hv q h1
        simp only [Bool.and_eq_true, Nat.ble_eq] at this
        omega

/-- nothing is written but what the call made -/
structure Keeps (N : Nat) (ρ : Map) (s : St) (w w1 : World) : Prop where
  heap : ∀ c, c < w.heap.size → (∀ b, N ≤ b → b < s.n → (ρ b).tgt ≠ some c) → w1.heap[c]? = w.heap[c]?
  size : w.heap.size ≤ w1.heap.size
  os : w1.os = w.os
  output : w1.output = w.output
  tape : w1.tape = w.tape
theorem Keeps.of {N W : Nat} {ρ ρ1 : Map} {s s1 : St} {w w1 : World} (e : Ext W ρ ρ1 s s1 w w1) (hW : ∀ b, b < N → W.testBit b = false) : Keeps N ρ s w w1 :=
  ⟨fun c hc h => e.heap c hc fun b hb hw => h b (by
    by_cases hlt : b < N
    · rw [hW b hlt] at hw; cases hw
    · omega) hb, e.size, e.os, e.output, e.tape⟩
theorem Keeps.trans {N W : Nat} {ρ ρ1 : Map} {s s1 : St} {w w1 w2 : World} (e : Ext W ρ ρ1 s s1 w w1) (hW : ∀ b, b < N → W.testBit b = false) (k : Keeps N ρ1 s1 w1 w2) : Keeps N ρ s w w2 := by
  have k0 := Keeps.of e hW
  refine ⟨fun c hc h => ?_, Nat.le_trans e.size k.size, k.os.trans e.os, k.output.trans e.output, k.tape.trans e.tape⟩
  rw [← k0.heap c hc h]
  refine k.heap c (Nat.lt_of_lt_of_le hc e.size) fun b h1 h2 h3 => ?_
  by_cases hb : b < s.n
  · rcases e.old b hb with h4 | ⟨_, h4⟩
    · rw [h4] at h3; exact h b h1 hb h3
    · rw [h4] at h3; cases h3
  · rcases e.new b c (by omega) h2 h3 with h4 | ⟨b0, h4, h5, h6⟩
    · omega
    · exact h b0 (by
        by_cases hlt : b0 < N
        · rw [hW b0 hlt] at h5; cases h5
        · omega) h4 h6

/-- from here on the call ends with true -/
def Fine (P : Program) (N fn sz : Nat) (todo : List Item) (tm : Tree Value) (s : St) : Prop :=
  ∀ (ρ : Map) (w : World) (b : Frame) (a : Act), InvA ρ s w → (∀ c, s.n ≤ c → ρ c = .none) → GR P ρ → b.fn = fn → b.kind = .normal → b.roundOf = none → a.defers = [] → TRel ρ tm sz a.tmps →
    ∃ w1, Keeps N ρ s w w1 ∧ Ends P (b.atR a todo) w (.bool true) w1

def lowB (N : Nat) (s1 : St) : Bool := Nat.beq (s1.w % 2 ^ N) 0
theorem lowB_ok {N : Nat} {s1 : St} (h : lowB N s1 = true) : ∀ b, b < N → s1.w.testBit b = false := by
  intro b hb
  have h1 : s1.w % 2 ^ N = 0 := by simpa [lowB] using h
  have h2 := Nat.testBit_mod_two_pow s1.w N b
  rw [h1] at h2
  simp [hb] at h2
  exact h2
theorem cover (n m : Nat) : ∀ b, b < n → ((2 ^ n - 1) ||| m).testBit b = true := fun b hb => by
  rw [Nat.testBit_or, Nat.testBit_two_pow_sub_one, decide_eq_true hb, Bool.true_or]

/-- the last piece -/
def lastB (P : Program) (fuel N fn sz : Nat) (todo : List Item) (tm : Tree Value) (s : St) : Bool :=
  match run P fuel { fn, tm, sz, defers := [], todo, ro := none } s with
  | some (.bool true, s1) => lowB N s1
  | _ => false
theorem last_ok {P : Program} (hP : NG P) (hm : P.follows .mixedOrders = true) {fuel N fn sz : Nat} {todo : List Item} {tm : Tree Value} {s : St} (h : lastB P fuel N fn sz todo tm s = true) : Fine P N fn sz todo tm s := by
  unfold lastB at h
  split at h
  · rename_i s1 hr
    obtain ⟨m, hrun⟩ := run_ok hP hm fuel _ s _ s1 hr
    intro ρ w b a hi hf hg h1 h2 h3 h4 ht
    obtain ⟨ρ1, w1, v', i1, e1, hv, hend⟩ := hrun s1.fp (.refl _) ρ w b a (fun c hc _ => hf c hc) (hi _) hg ⟨h1, h2, .inl ⟨rfl, h3⟩, ht, by rw [h4]; trivial⟩
    have hv2 := hv.bool_inv
    subst hv2
    exact ⟨w1, .of e1 (lowB_ok h), hend⟩
  · cases h

/-- one piece, up to a picture -/
def pieceB (P : Program) (fuel N sz : Nat) (l : List Bool) (todo : List Item) (tm : Tree Value) (s : St) (p : Pic) : Bool :=
  match runs P (run P fuel) sz l todo tm s with
  | some (tm1, s1) => lowB N s1 && p.of sz tm1 s1
  | none => false
theorem piece_ok {P : Program} (hP : NG P) (hm : P.follows .mixedOrders = true) {fuel N fn sz : Nat} {l : List Bool} {todo : List Item} {tm : Tree Value} {s : St} {p : Pic} (h : pieceB P fuel N sz l todo tm s p = true)
    (hnext : Fine P N fn sz (todoAfter l todo) p.tm p.st) : Fine P N fn sz todo tm s := by
  unfold pieceB at h
  split at h
  · rename_i tm1 s1 hr
    rw [Bool.and_eq_true] at h
    obtain ⟨m, hst⟩ := runs_ok hP hm l hr
    intro ρ w b a hi hf hg h1 h2 h3 h4 ht
    obtain ⟨ρ1, w1, a1, i1, e1, ht1, hd1, hs⟩ := hst ((2 ^ s1.n - 1) ||| s1.fp) (Sub.orr _ _) ρ w b a (fun c hc _ => hf c hc) (hi _) hg ht
    have hia : InvA ρ1 s1 w1 := fun F => ⟨fun c hc _ => i1.at_ c hc (cover _ _ c hc), i1.inj, i1.lt⟩
    obtain ⟨k1, k2, k3⟩ := Pic.of_ok h.2 hia ht1
    obtain ⟨w2, hk, hend⟩ := hnext ρ1 w1 b a1 k2 (fun c hc => by
      have hc : s1.n ≤ c := by rw [← k1]; exact hc
      rw [e1.far c hc]; exact hf c (Nat.le_trans m.n hc)) (hg.mono e1.le) h1 h2 h3 (hd1.trans h4) k3
    refine ⟨w2, .trans e1 (lowB_ok h.1) (s1 := s1) ⟨fun c hc hh => hk.heap c hc (fun b h5 h6 => hh b h5 (by rw [← k1]; exact h6)), hk.size, hk.os, hk.output, hk.tape⟩, hend.of_steps rfl rfl hs⟩
  · cases h

/-- the whole call -/
theorem fine_closed {P : Program} {f N fnn : Nat} {fr : CF} {s : St} (hfr : enterC P f #[] = some fr) (hfn : fr.fn = fnn) (h : Fine P N fnn fr.sz fr.todo fr.tm s) (hN : s.n ≤ N) (hn : P.globals.size ≤ s.n)
    (w : World) (hw : P.globals.size ≤ w.heap.size) (hat : ∀ b, b < s.n → At (base P) w b (s.t.get b)) :
    Calls P f #[] w fun e w1 => e = .returned (.bool true) ∧ Below w.heap.size w w1 := by
  obtain ⟨b, a, he, hrel⟩ := enterC_ok hfr (ARel.ground (ρ := base P) (x := #[]) rfl)
  have hro : fr.ro = none ∧ fr.fn = f ∧ fr.defers = [] := by
    unfold enterC at hfr
    split at hfr
    · split at hfr
      · split at hfr
        · injection hfr with hfr; subst hfr; exact ⟨rfl, rfl, rfl⟩
        · cases hfr
      · cases hfr
    · cases hfr
  have hb0 : b.roundOf = none := by
    rcases hrel.ro with ⟨_, h3⟩ | ⟨l2, l', h3, _⟩
    · exact h3
    · rw [hro.1] at h3; cases h3
  have hd0 : a.defers = [] := by
    have := hrel.defers
    rw [hro.2.2] at this
    cases e : a.defers with
    | nil => rfl
    | cons x y => rw [e] at this; exact this.elim
  have hinv : InvA (base P) s w := by
    refine fun F => ⟨fun b hb _ => hat b hb, fun b c x h1 h2 => ?_, fun b x h1 => ?_⟩
    · unfold base at h1 h2
      split at h1
      · split at h2
        · injection h1 with h1; injection h2 with h2; omega
        · cases h2
      · cases h1
    · unfold base at h1
      split at h1
      · injection h1 with h1; omega
      · cases h1
  obtain ⟨w1, hk, hend⟩ := h (base P) w b a hinv (fun c hc => by unfold base; rw [if_neg (by omega)]) (fun g hg => by unfold base; rw [if_pos hg]) (hrel.fn.trans hfn) hrel.kind hb0 hd0 hrel.tm
  intro cs
  obtain ⟨fr1, k1, k2, k3⟩ := hend.leave hb0 cs
  refine ⟨.returned (.bool true), w1, fr1, ⟨rfl, hk.os, hk.tape, hk.output, hk.size, fun c hc => hk.heap c hc fun b h1 h2 => absurd h2 (by omega)⟩, ?_, ?_, k3⟩
  · rw [he]; exact k1
  · exact k2.trans (hrel.fn.trans hro.2.1)
end Go.Canon
