/-
  A canonical memory beside the model's: trees, blocks, what a value of the one is in the other.
-/
import Derived.Calls
import Derived.KernelRfl
import Derived.Below
import Derived.Laws.World
namespace Go.Canon

inductive Tree (α : Type) where
  | leaf
  | node (l : Tree α) (v : Option α) (r : Tree α)
  deriving Inhabited

def Tree.get {α : Type} : Tree α → Nat → Option α
  | .leaf, _ => none
  | .node l v r, n => match n with
    | 0 => v
    | m + 1 => if m % 2 == 0 then l.get (m / 2) else r.get (m / 2)

def Tree.set {α : Type} : Nat → Tree α → Nat → α → Tree α
  | 0, t, _, _ => t
  | f + 1, .leaf, n, x => match n with
    | 0 => .node .leaf (some x) .leaf
    | m + 1 => if m % 2 == 0 then .node (Tree.set f .leaf (m / 2) x) none .leaf else .node .leaf none (Tree.set f .leaf (m / 2) x)
  | f + 1, .node l v r, n, x => match n with
    | 0 => .node l (some x) r
    | m + 1 => if m % 2 == 0 then .node (Tree.set f l (m / 2) x) v r else .node l v (Tree.set f r (m / 2) x)

theorem Tree.get_leaf {α : Type} (n : Nat) : (Tree.leaf : Tree α).get n = none := by unfold Tree.get; rfl
theorem Tree.get_set {α : Type} : ∀ (f : Nat) (t : Tree α) (n : Nat) (x : α) (m : Nat), n + 1 < 2 ^ f → (Tree.set f t n x).get m = if m = n then some x else t.get m := by
  intro f
  induction f with
  | zero => intro t n x m h; simp at h
  | succ f ih =>
    intro t n x m h
    have hp : 2 ^ (f + 1) = 2 * 2 ^ f := by rw [Nat.pow_succ, Nat.mul_comm]
    rcases n with _ | n <;> rcases m with _ | m <;> rcases t with _ | ⟨l, v, r⟩
    all_goals try (simp [Tree.set, Tree.get]; done)
    all_goals try (simp [Tree.set, Tree.get, Tree.get_leaf]; done)
    all_goals try (simp only [Tree.set]; split <;> simp [Tree.get]; done)
    all_goals
      have h2 : n / 2 + 1 < 2 ^ f := by omega
      have e : (m = n) ↔ (m % 2 = n % 2 ∧ m / 2 = n / 2) := by omega
      simp only [Tree.set]
      rcases Nat.mod_two_eq_zero_or_one n with hn | hn <;> rcases Nat.mod_two_eq_zero_or_one m with hm | hm <;>
        simp [Tree.get, hn, hm, ih, h2, e, Tree.get_leaf]

/-- what a canonical block is in the memory at hand -/
inductive Stt where
  | none
  | hard (b : Nat)
  | soft (b m es : Nat)
  | dead

def Stt.tgt : Stt → Option Nat
  | .hard b => some b
  | .soft b _ _ => some b
  | _ => Option.none
def Stt.isSoft : Stt → Bool
  | .soft .. => true
  | _ => false

abbrev Map := Nat → Stt

inductive VRel (ρ : Map) : Value → Value → Prop
  | bool (b : Bool) : VRel ρ (.bool b) (.bool b)
  | int (k : IntKind) (n : Int) : VRel ρ (.int k n) (.int k n)
  | float (k : FloatKind) (n : Nat) : VRel ρ (.float k n) (.float k n)
  | string (s : ByteArray) : VRel ρ (.string s) (.string s)
  | ptrNil : VRel ρ (.pointer none) (.pointer none)
  | ptr (a : Addr) (b' : Nat) : (ρ a.block).tgt = some b' → VRel ρ (.pointer (some a)) (.pointer (some ⟨b', a.off, a.spot⟩))
  | ptrDead (a a' : Addr) : ρ a.block = .dead → VRel ρ (.pointer (some a)) (.pointer (some a'))
  | slNil (n c : Nat) : VRel ρ (.slice none n c) (.slice none n c)
  | slHard (a : Addr) (b' n c : Nat) : ρ a.block = .hard b' → VRel ρ (.slice (some a) n c) (.slice (some ⟨b', a.off, a.spot⟩) n c)
  | slSoft (a : Addr) (b' m es n c c' : Nat) : ρ a.block = .soft b' m es → c ≤ c' → a.off + c' * es ≤ m → VRel ρ (.slice (some a) n c) (.slice (some ⟨b', a.off, a.spot⟩) n c')
  | slDead (a a' : Addr) (n c c' : Nat) : ρ a.block = .dead → VRel ρ (.slice (some a) n c) (.slice (some a') n c')
  | mapNil : VRel ρ (.map none) (.map none)
  | map (m m' : Nat) : ρ m = .hard m' → VRel ρ (.map (some m)) (.map (some m'))
  | func (f : FuncId) (x x' y y' : Array Value) : x.size = x'.size → (∀ (i : Nat) (h : i < x.size) (h' : i < x'.size), VRel ρ x[i] x'[i]) →
      y.size = y'.size → (∀ (i : Nat) (h : i < y.size) (h' : i < y'.size), VRel ρ y[i] y'[i]) → VRel ρ (.func (.func f) x y) (.func (.func f) x' y')
  | yield (l l' : Nat) : ρ l = .hard l' → VRel ρ (.func (.yield l) #[] #[]) (.func (.yield l') #[] #[])
  | nilFunc : VRel ρ .nilFunc .nilFunc
  | nilIface : VRel ρ .nilIface .nilIface
  | iface (t : TypeId) (v v' : Value) : VRel ρ v v' → VRel ρ (.iface t v) (.iface t v')
  | agg (x x' : Array Value) : x.size = x'.size → (∀ (i : Nat) (h : i < x.size) (h' : i < x'.size), VRel ρ x[i] x'[i]) → VRel ρ (.agg x) (.agg x')
  | tuple (x x' : Array Value) : x.size = x'.size → (∀ (i : Nat) (h : i < x.size) (h' : i < x'.size), VRel ρ x[i] x'[i]) → VRel ρ (.tuple x) (.tuple x')

/-- arrays, value by value -/
def ARel (ρ : Map) (x x' : Array Value) : Prop := x.size = x'.size ∧ ∀ (i : Nat) (h : i < x.size) (h' : i < x'.size), VRel ρ x[i] x'[i]

theorem VRel.agg_of {ρ : Map} {x x' : Array Value} (h : ARel ρ x x') : VRel ρ (.agg x) (.agg x') := .agg x x' h.1 h.2
theorem VRel.tuple_of {ρ : Map} {x x' : Array Value} (h : ARel ρ x x') : VRel ρ (.tuple x) (.tuple x') := .tuple x x' h.1 h.2

def le (ρ ρ1 : Map) : Prop := ∀ b, ρ b = .none ∨ ρ1 b = ρ b ∨ ((ρ b).isSoft = true ∧ ρ1 b = .dead)
theorem le.refl (ρ : Map) : le ρ ρ := fun _ => .inr (.inl rfl)
theorem le.trans {a b c : Map} (h : le a b) (k : le b c) : le a c := by
  intro x
  rcases h x with h1 | h1 | ⟨h1, h2⟩
  · exact .inl h1
  · rcases k x with k1 | k1 | ⟨k1, k2⟩
    · exact .inl (h1 ▸ k1)
    · exact .inr (.inl (k1.trans h1))
    · exact .inr (.inr ⟨h1 ▸ k1, k2⟩)
  · rcases k x with k1 | k1 | ⟨k1, k2⟩
    · rw [h2] at k1; cases k1
    · exact .inr (.inr ⟨h1, k1.trans h2⟩)
    · rw [h2] at k1; cases k1

theorem le.hard {ρ ρ1 : Map} (h : le ρ ρ1) {b b' : Nat} (e : ρ b = .hard b') : ρ1 b = .hard b' := by
  rcases h b with h1 | h1 | ⟨h1, h2⟩
  · rw [e] at h1; cases h1
  · exact h1.trans e
  · rw [e] at h1; cases h1
theorem le.dead {ρ ρ1 : Map} (h : le ρ ρ1) {b : Nat} (e : ρ b = .dead) : ρ1 b = .dead := by
  rcases h b with h1 | h1 | ⟨h1, h2⟩
  · rw [e] at h1; cases h1
  · exact h1.trans e
  · exact h2
theorem le.soft {ρ ρ1 : Map} (h : le ρ ρ1) {b b' m es : Nat} (e : ρ b = .soft b' m es) : ρ1 b = .soft b' m es ∨ ρ1 b = .dead := by
  rcases h b with h1 | h1 | ⟨h1, h2⟩
  · rw [e] at h1; cases h1
  · exact .inl (h1.trans e)
  · exact .inr h2
theorem le.tgt {ρ ρ1 : Map} (h : le ρ ρ1) {b b' : Nat} (e : (ρ b).tgt = some b') : (ρ1 b).tgt = some b' ∨ ρ1 b = .dead := by
  rcases h b with h1 | h1 | ⟨h1, h2⟩
  · rw [h1] at e; cases e
  · exact .inl (h1 ▸ e)
  · exact .inr h2

theorem VRel.mono {ρ ρ1 : Map} {v v' : Value} (h : VRel ρ v v') (hl : le ρ ρ1) : VRel ρ1 v v' := by
  induction h with
  | bool b => exact .bool b
  | int k n => exact .int k n
  | float k n => exact .float k n
  | string s => exact .string s
  | ptrNil => exact .ptrNil
  | ptr a b' e => exact (hl.tgt e).elim (fun e1 => .ptr a b' e1) (fun e1 => .ptrDead a _ e1)
  | ptrDead a a' e => exact .ptrDead a a' (hl.dead e)
  | slNil n c => exact .slNil n c
  | slHard a b' n c e => exact .slHard a b' n c (hl.hard e)
  | slSoft a b' m es n c c' e h1 h2 => exact (hl.soft e).elim (fun e1 => .slSoft a b' m es n c c' e1 h1 h2) (fun e1 => .slDead a _ n c c' e1)
  | slDead a a' n c c' e => exact .slDead a a' n c c' (hl.dead e)
  | mapNil => exact .mapNil
  | map m m' e => exact .map m m' (hl.hard e)
  | func f x x' y y' h1 _ h3 _ i1 i2 => exact .func f x x' y y' h1 i1 h3 i2
  | yield l l' e => exact .yield l l' (hl.hard e)
  | nilFunc => exact .nilFunc
  | nilIface => exact .nilIface
  | iface t v v' _ i => exact .iface t v v' i
  | agg x x' h1 _ i => exact .agg x x' h1 i
  | tuple x x' h1 _ i => exact .tuple x x' h1 i

theorem ARel.mono {ρ ρ1 : Map} {x x' : Array Value} (h : ARel ρ x x') (hl : le ρ ρ1) : ARel ρ1 x x' := ⟨h.1, fun i a b => (h.2 i a b).mono hl⟩

/-- values without addresses -/
def ground : Nat → Value → Bool
  | 0, _ => false
  | d + 1, v => match v with
    | .bool _ | .int _ _ | .float _ _ | .string _ | .pointer none | .slice none _ _ | .map none | .nilFunc | .nilIface => true
    | .iface _ v => ground d v
    | .agg cs => cs.toList.all (ground d)
    | .tuple cs => cs.toList.all (ground d)
    | .func (.func _) x y => x.toList.all (ground d) && y.toList.all (ground d)
    | _ => false

theorem ground_all {d : Nat} {cs : Array Value} (h : cs.toList.all (ground d) = true) (i : Nat) (hi : i < cs.size) : ground d cs[i] = true := by
  rw [List.all_eq_true] at h
  exact h _ (by simp)

theorem ground_eq : ∀ (d : Nat) (v : Value), ground d v = true → ∀ (ρ : Map) (v' : Value), VRel ρ v v' → v' = v := by
  intro d
  induction d with
  | zero => intro v h; cases h
  | succ d ih =>
    intro v h ρ v' hv
    have arr : ∀ {x x' : Array Value}, x.toList.all (ground d) = true → x.size = x'.size → (∀ (i : Nat) (h : i < x.size) (h' : i < x'.size), VRel ρ x[i] x'[i]) → x' = x := by
      intro x x' hx hs hi
      apply Array.ext hs.symm
      intro i h1 h2
      exact ih _ (ground_all hx i h2) ρ _ (hi i h2 h1)
    cases hv with
    | iface t v v' hr => simp only [ground] at h; rw [ih _ h ρ _ hr]
    | agg x x' h1 h2 => simp only [ground] at h; rw [arr h h1 h2]
    | tuple x x' h1 h2 => simp only [ground] at h; rw [arr h h1 h2]
    | func f x x' y y' h1 h2 h3 h4 =>
      simp only [ground, Bool.and_eq_true] at h
      rw [arr h.1 h1 h2, arr h.2 h3 h4]
    | _ => first | rfl | (simp [ground] at h)

theorem ground_rel : ∀ (d : Nat) (v : Value), ground d v = true → ∀ (ρ : Map), VRel ρ v v := by
  intro d
  induction d with
  | zero => intro v h; cases h
  | succ d ih =>
    intro v h ρ
    have arr : ∀ {x : Array Value}, x.toList.all (ground d) = true → (∀ (i : Nat) (h : i < x.size) (h' : i < x.size), VRel ρ x[i] x[i]) :=
      fun hx i h1 _ => ih _ (ground_all hx i h1) ρ
    cases v with
    | bool b => exact .bool b
    | int k n => exact .int k n
    | float k n => exact .float k n
    | complex k a b => simp [ground] at h
    | string s => exact .string s
    | pointer a => cases a with
      | none => exact .ptrNil
      | some a => simp [ground] at h
    | slice a n c => cases a with
      | none => exact .slNil n c
      | some a => simp [ground] at h
    | map r => cases r with
      | none => exact .mapNil
      | some a => simp [ground] at h
    | chan r => simp [ground] at h
    | func fn x y => cases fn with
      | func f =>
        simp only [ground, Bool.and_eq_true] at h
        exact .func f x x y y rfl (arr h.1) rfl (arr h.2)
      | _ => simp [ground] at h
    | nilFunc => exact .nilFunc
    | iface t v => simp only [ground] at h; exact .iface t v v (ih _ h ρ)
    | nilIface => exact .nilIface
    | agg cs => simp only [ground] at h; exact .agg cs cs rfl (arr h)
    | tuple cs => simp only [ground] at h; exact .tuple cs cs rfl (arr h)

/-- a list against the front of an array -/
def PRel (ρ : Map) (c : List Value) (c' : Array Value) : Prop := ∀ (i : Nat) (v : Value), c[i]? = some v → ∃ v', c'[i]? = some v' ∧ VRel ρ v v'
theorem PRel.mono {ρ ρ1 : Map} {c : List Value} {c' : Array Value} (h : PRel ρ c c') (hl : le ρ ρ1) : PRel ρ1 c c' := fun i v e => by
  obtain ⟨v', h1, h2⟩ := h i v e
  exact ⟨v', h1, h2.mono hl⟩
theorem ARel.prel {ρ : Map} {x x' : Array Value} (h : ARel ρ x x') : PRel ρ x.toList x' := by
  intro i v e
  rw [Array.getElem?_toList] at e
  obtain ⟨hi, e⟩ := Array.getElem?_eq_some_iff.1 e
  exact ⟨x'[i]'(h.1 ▸ hi), Array.getElem?_eq_some_iff.2 ⟨h.1 ▸ hi, rfl⟩, e ▸ h.2 i hi _⟩
theorem ARel.of_prel {ρ : Map} {x x' : Array Value} (h : PRel ρ x.toList x') (hs : x.size = x'.size) : ARel ρ x x' := by
  refine ⟨hs, fun i h1 h2 => ?_⟩
  obtain ⟨v', e1, e2⟩ := h i x[i] (by rw [Array.getElem?_toList]; exact Array.getElem?_eq_some_iff.2 ⟨h1, rfl⟩)
  obtain ⟨_, e1⟩ := Array.getElem?_eq_some_iff.1 e1
  rw [e1]; exact e2

theorem VRel.cells {ρ : Map} {v v' : Value} (h : VRel ρ v v') : ARel ρ v.cells v'.cells := by
  have one : ∀ {a b : Value}, VRel ρ a b → ARel ρ #[a] #[b] := fun {a b} h => ⟨rfl, fun i h1 _ => by
    simp at h1; subst h1; exact h⟩
  cases h with
  | agg x x' h1 h2 => exact ⟨h1, h2⟩
  | bool b => exact one (.bool b)
  | int k n => exact one (.int k n)
  | float k n => exact one (.float k n)
  | string s => exact one (.string s)
  | ptrNil => exact one .ptrNil
  | ptr a b' e => exact one (.ptr a b' e)
  | ptrDead a a' e => exact one (.ptrDead a a' e)
  | slNil n c => exact one (.slNil n c)
  | slHard a b' n c e => exact one (.slHard a b' n c e)
  | slSoft a b' m es n c c' e h1 h2 => exact one (.slSoft a b' m es n c c' e h1 h2)
  | slDead a a' n c c' e => exact one (.slDead a a' n c c' e)
  | mapNil => exact one .mapNil
  | map m m' e => exact one (.map m m' e)
  | func f x x' y y' h1 h2 h3 h4 => exact one (.func f x x' y y' h1 h2 h3 h4)
  | yield l l' e => exact one (.yield l l' e)
  | nilFunc => exact one .nilFunc
  | nilIface => exact one .nilIface
  | iface t v v' hr => exact one (.iface t v v' hr)
  | tuple x x' h1 h2 => exact one (.tuple x x' h1 h2)
end Go.Canon
