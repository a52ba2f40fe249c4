/-
  Regions that draw their order: what comes before what; that every order that is drawn keeps to it.
-/
import Derived.Test.YtjdjmeiahchblaaGreatDoorCanM
namespace Go.Canon

/-! what comes before an operation -/
def mask (acc : List Nat) (o : Oper) : Nat := o.after.toList.foldl (fun m e => if Region.binds .any e then m ||| 2 ^ e.on ||| acc.getD e.on 0 else m) 0
def befL : List Nat → List Oper → List Nat
  | acc, [] => acc
  | acc, o :: os => befL (acc ++ [mask acc o]) os

theorem mask_bit_from (acc : List Nat) (i : Nat) : ∀ (l : List Edge) (m : Nat), (l.foldl (fun m e => if Region.binds .any e then m ||| 2 ^ e.on ||| acc.getD e.on 0 else m) m).testBit i = true →
    m.testBit i = true ∨ ∃ e ∈ l, Region.binds .any e = true ∧ (e.on = i ∨ (acc.getD e.on 0).testBit i = true) := by
  intro l
  induction l with
  | nil => intro m h; exact .inl h
  | cons e l ih =>
    intro m h
    rw [List.foldl_cons] at h
    rcases ih _ h with h1 | ⟨e', h1, h2⟩
    · split at h1
      · rename_i hb
        rw [Nat.testBit_or, Nat.testBit_or, Bool.or_eq_true, Bool.or_eq_true] at h1
        rcases h1 with (h1 | h1) | h1
        · exact .inl h1
        · refine .inr ⟨e, by simp, hb, .inl ?_⟩
          rw [Nat.testBit_two_pow] at h1
          simpa using h1
        · exact .inr ⟨e, by simp, hb, .inr h1⟩
      · exact .inl h1
    · exact .inr ⟨e', by simp [h1], h2⟩
theorem mask_bit {acc : List Nat} {o : Oper} {i : Nat} (h : (mask acc o).testBit i = true) : ∃ e ∈ o.after.toList, Region.binds .any e = true ∧ (e.on = i ∨ (acc.getD e.on 0).testBit i = true) := by
  rcases mask_bit_from acc i _ 0 h with h1 | h1
  · simp at h1
  · exact h1
theorem befL_prefix : ∀ (os : List Oper) (acc : List Nat) (k : Nat), k < acc.length → (befL acc os).getD k 0 = acc.getD k 0
  | [], _, _, _ => rfl
  | o :: os, acc, k, h => by
    rw [befL, befL_prefix os _ k (by simp; omega), List.getD_eq_getElem?_getD, List.getD_eq_getElem?_getD, List.getElem?_append_left h]
theorem befL_bit : ∀ (os : List Oper) (acc : List Nat) (j : Nat) (o : Oper), os[j]? = some o → ∀ i, ((befL acc os).getD (acc.length + j) 0).testBit i = true →
    ∃ e ∈ o.after.toList, Region.binds .any e = true ∧ (e.on = i ∨ ((befL acc os).getD e.on 0).testBit i = true)
  | [], _, _, _, h, _, _ => by simp at h
  | o :: os, acc, 0, o', h, i, hb => by
    simp only [List.getElem?_cons_zero, Option.some.injEq] at h
    subst h
    rw [befL, befL_prefix os _ _ (by simp), List.getD_eq_getElem?_getD, List.getElem?_append_right (by simp)] at hb
    simp only [Nat.add_zero, Nat.sub_self, List.getElem?_cons_zero, Option.getD_some] at hb
    obtain ⟨e, h1, h2, h3⟩ := mask_bit hb
    refine ⟨e, h1, h2, h3.imp id (fun h4 => ?_)⟩
    by_cases hlt : e.on < acc.length
    · rw [befL, befL_prefix os _ _ (by simp; omega), List.getD_eq_getElem?_getD, List.getElem?_append_left hlt, ← List.getD_eq_getElem?_getD]
      exact h4
    · rw [List.getD_eq_getElem?_getD, List.getElem?_eq_none (by omega)] at h4
      simp at h4
  | o :: os, acc, j + 1, o', h, i, hb => by
    simp only [List.getElem?_cons_succ] at h
    rw [befL] at hb ⊢
    refine befL_bit os (acc ++ [mask acc o]) j o' h i ?_
    rw [List.length_append, List.length_singleton, Nat.add_assoc, Nat.add_comm 1 j]
    exact hb

def bef (ops : Array Oper) : List Nat := befL [] ops.toList

/-- edges lead back -/
def backB (ops : Array Oper) : Bool := ops.toList.zipIdx.all fun (o, j) => o.after.toList.all fun e => !Region.binds .any e || decide (e.on < j)
theorem backB_spec {ops : Array Oper} (h : backB ops = true) {j : Nat} {o : Oper} (ho : ops[j]? = some o) {e : Edge} (he : e ∈ o.after.toList) (hb : Region.binds .any e = true) : e.on < j := by
  unfold backB at h
  rw [List.all_eq_true] at h
  have hm : (o, j) ∈ ops.toList.zipIdx := by
    rw [List.mem_zipIdx_iff_getElem?]
    simpa using ho
  have h1 := h _ hm
  simp only at h1
  rw [List.all_eq_true] at h1
  have h2 := h1 e he
  rw [hb] at h2
  simpa using h2

/-- a set of operations that have come up -/
def Closed (ops : Array Oper) (D : Nat → Bool) : Prop := ∀ j o, ops[j]? = some o → D j = true → ∀ e ∈ o.after.toList, Region.binds .any e = true → D e.on = true
theorem Closed.prior {ops : Array Oper} {D : Nat → Bool} (hb : backB ops = true) (h : Closed ops D) : ∀ (j : Nat), j < ops.size → D j = true → ∀ i, ((bef ops).getD j 0).testBit i = true → D i = true := by
  intro j
  induction j using Nat.strongRecOn with
  | _ j ih =>
    intro hj hD i hi
    have ho : ops[j]? = some ops[j] := Array.getElem?_eq_getElem hj
    have hi' : ((befL [] ops.toList).getD (([] : List Nat).length + j) 0).testBit i = true := by simpa [bef] using hi
    obtain ⟨e, h1, h2, h3⟩ := befL_bit ops.toList [] j ops[j] (by simp) i hi'
    have hD2 := h j _ ho hD e h1 h2
    rcases h3 with h3 | h3
    · exact h3 ▸ hD2
    · have hlt := backB_spec hb ho h1 h2
      exact ih e.on hlt (by omega) hD2 i (by simpa [bef] using h3)
theorem Closed.prior_ready {ops : Array Oper} {D : Nat → Bool} (hb : backB ops = true) (h : Closed ops D) {j : Nat} {o : Oper} (ho : ops[j]? = some o) (hr : ∀ e ∈ o.after.toList, Region.binds .any e = true → D e.on = true) :
    ∀ i, ((bef ops).getD j 0).testBit i = true → D i = true := by
  intro i hi
  have hi' : ((befL [] ops.toList).getD (([] : List Nat).length + j) 0).testBit i = true := by simpa [bef] using hi
  obtain ⟨e, h1, h2, h3⟩ := befL_bit ops.toList [] j o (by simpa using ho) i hi'
  have hD2 := hr e h1 h2
  rcases h3 with h3 | h3
  · exact h3 ▸ hD2
  · have hlt := backB_spec hb ho h1 h2
    have hj : j < ops.size := (Array.getElem?_eq_some_iff.1 ho).1
    exact h.prior hb e.on (by omega) hD2 i (by simpa [bef] using h3)

/-- an order in which all that is left comes up -/
inductive Val (ops : Array Oper) : (Nat → Bool) → List Nat → Prop
  | done (D : Nat → Bool) : (∀ i, i < ops.size → D i = true) → Val ops D []
  | next (D : Nat → Bool) (j : Nat) (o : Oper) (l : List Nat) : ops[j]? = some o → D j = false → (∀ e ∈ o.after.toList, Region.binds .any e = true → D e.on = true) → Val ops (fun i => i == j || D i) l → Val ops D (j :: l)

def listedD (listed : Array Bool) : Nat → Bool := fun i => listed.getD i true

theorem val_go {ops : Array Oper} (hb : backB ops = true) : ∀ (fuel t : Nat) (listed : Array Bool), listed.size = ops.size → (∀ x : Nat → Bool, (∀ i, x i = listedD listed i) → ((List.range ops.size).filter fun i => !x i).length ≤ fuel) →
    Val ops (listedD listed) (Region.linearise.go .any ops fuel t listed []) := by
  intro fuel
  induction fuel with
  | zero =>
    intro t listed hs hf
    simp only [Region.linearise.go, List.reverse_nil]
    refine .done _ fun i hi => ?_
    have := hf (listedD listed) (fun _ => rfl)
    have h0 : (List.range ops.size).filter (fun i => !listedD listed i) = [] := List.eq_nil_of_length_eq_zero (by omega)
    rw [List.filter_eq_nil_iff] at h0
    have := h0 i (by simpa using hi)
    simpa using this
  | succ fuel ih =>
    intro t listed hs hf
    simp only [Region.linearise.go]
    change Val ops (listedD listed) (match (Region.ready .any ops listed)[t % (Region.ready .any ops listed).length]? with
      | some i => Region.linearise.go .any ops fuel (t / (Region.ready .any ops listed).length) (listed.setIfInBounds i true) [i]
      | none => [].reverse)
    cases hi : (Region.ready .any ops listed)[t % (Region.ready .any ops listed).length]? with
    | none =>
      have hnil : Region.ready .any ops listed = [] := by
        cases hr : Region.ready .any ops listed with
        | nil => rfl
        | cons x xs =>
          rw [hr] at hi
          have hlt : t % (x :: xs).length < (x :: xs).length := Nat.mod_lt _ (by simp)
          simp at hi
          simp at hlt
          omega
      refine .done _ ?_
      -- the first one that has not come up may come up
      intro i
      induction i using Nat.strongRecOn with
      | _ i ihi =>
        intro hlt
        apply Classical.byContradiction
        intro hno
        have hD : listed.getD i true = false := by
          have : listedD listed i ≠ true := hno
          simpa [listedD] using this
        have hmem : i ∈ Region.ready .any ops listed := by
          unfold Region.ready
          rw [List.mem_filter]
          refine ⟨by simpa using hlt, ?_⟩
          have ho : ops[i]? = some ops[i] := Array.getElem?_eq_getElem hlt
          rw [hD, ho]
          simp only [Bool.not_false, Bool.true_and, Option.map_some, Option.getD_some]
          rw [Array.all_eq_true']
          intro e he
          cases hbe : Region.binds .any e with
          | false => rfl
          | true =>
            have hlt2 := backB_spec hb ho (by simpa using he) hbe
            have h1 := ihi e.on hlt2 (by omega)
            simp only [listedD] at h1
            simp only [Bool.not_true, Bool.false_or]
            rw [Array.getD_eq_getD_getElem?, Array.getElem?_eq_getElem (by omega)] at h1 ⊢
            simpa using h1
        rw [hnil] at hmem
        cases hmem
    | some j =>
      simp only []
      rw [linearise_go_acc, List.reverse_singleton, List.singleton_append]
      have hmem : j ∈ Region.ready .any ops listed := List.mem_of_getElem? hi
      unfold Region.ready at hmem
      rw [List.mem_filter] at hmem
      obtain ⟨hj, hr⟩ := hmem
      rw [Bool.and_eq_true] at hr
      have hjn : j < ops.size := by simpa using hj
      have ho : ops[j]? = some ops[j] := Array.getElem?_eq_getElem hjn
      have hDj : listedD listed j = false := by simpa [listedD] using hr.1
      have e2 : ∀ i, listedD (listed.setIfInBounds j true) i = (i == j || listedD listed i) := by
        intro i
        simp only [listedD, Array.getD_eq_getD_getElem?, Array.getElem?_setIfInBounds]
        by_cases h1 : j = i
        · subst h1; simp [hs, hjn]
        · rw [if_neg h1]
          have : (i == j) = false := by simp; exact fun h => h1 h.symm
          rw [this, Bool.false_or]
      refine .next _ j ops[j] _ ho hDj ?_ ?_
      · intro e he hbe
        have h2 := hr.2
        rw [ho] at h2
        simp only [Option.map_some, Option.getD_some] at h2
        rw [Array.all_eq_true'] at h2
        have h3 := h2 e (by simpa using he)
        rw [hbe] at h3
        simp only [Bool.not_true, Bool.false_or] at h3
        have hlt2 := backB_spec hb ho he hbe
        simp only [listedD]
        rw [Array.getD_eq_getD_getElem?, Array.getElem?_eq_getElem (by omega)] at h3 ⊢
        simpa using h3
      · have h4 := ih (t / (Region.ready .any ops listed).length) (listed.setIfInBounds j true) (by simpa using hs) (by
          intro x hx
          have h5 := hf (listedD listed) (fun _ => rfl)
          -- one fewer is left
          have h6 : ((List.range ops.size).filter fun i => !x i).length < ((List.range ops.size).filter fun i => !listedD listed i).length := by
            have hsub : ((List.range ops.size).filter fun i => !x i) = (((List.range ops.size).filter fun i => !listedD listed i).filter fun i => i != j) := by
              rw [List.filter_filter]
              congr 1
              funext i
              rw [hx i, e2 i]
              cases h7 : (i == j) <;> cases h8 : listedD listed i <;> simp_all
            rw [hsub]
            refine List.length_filter_lt_length_iff_exists.2 ⟨j, ?_, ?_⟩
            · rw [List.mem_filter]; exact ⟨by simpa using hjn, by simp [hDj]⟩
            · simp
          omega)
        have e3 : listedD (listed.setIfInBounds j true) = fun i => i == j || listedD listed i := funext e2
        rw [e3] at h4
        exact h4

theorem val_schedule {ops : Array Oper} (hb : backB ops = true) (t : Nat) : Val ops (fun i => decide (ops.size ≤ i)) (Region.schedule true ops t) := by
  have h := val_go hb ops.size t (Array.replicate ops.size false) (by simp) (fun x _ => by
    have := List.length_filter_le (fun i => !x i) (List.range ops.size)
    simpa using this)
  have e : listedD (Array.replicate ops.size false) = fun i => decide (ops.size ≤ i) := by
    funext i
    simp only [listedD, Array.getD_eq_getD_getElem?, Array.getElem?_replicate]
    by_cases hi : i < ops.size
    · simp [hi]
    · simp [hi]; omega
  rw [e] at h
  simpa [Region.schedule, Region.linearise] using h
end Go.Canon
