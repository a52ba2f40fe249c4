/-
  The argument of a law of words, read as data: nine numbers. No conditions.
-/
import Derived.Test.YtaeekmlnfjimjaaGreatDoorP26
import Derived.OpenShut
import Derived.WideShapes
set_option linter.unusedVariables false
set_option linter.unusedSimpArgs false
set_option linter.unusedSectionVars false
namespace Go.Proofs.YtaeekmlnfjimjaaGreatDoor
open Go.ChangeShapes Go.WideShapes Go.RowKit Go.Canon

theorem len2 {α : Type} {l : List α} (h : l.length = 2) : ∃ a0 a1, l = [a0, a1] := by
  match l, h with
  | [a0, a1], _ => exact ⟨a0, a1, rfl⟩
theorem len5 {α : Type} {l : List α} (h : l.length = 5) : ∃ a0 a1 a2 a3 a4, l = [a0, a1, a2, a3, a4] := by
  match l, h with
  | [a0, a1, a2, a3, a4], _ => exact ⟨a0, a1, a2, a3, a4, rfl⟩
theorem len9 {α : Type} {l : List α} (h : l.length = 9) : ∃ a0 a1 a2 a3 a4 a5 a6 a7 a8, l = [a0, a1, a2, a3, a4, a5, a6, a7, a8] := by
  match l, h with
  | [a0, a1, a2, a3, a4, a5, a6, a7, a8], _ => exact ⟨a0, a1, a2, a3, a4, a5, a6, a7, a8, rfl⟩
theorem c24 : Tryz.prog.cellsOf 24 = 1 := by kernel_rfl
theorem c3 : Tryz.prog.cellsOf 3 = 1 := by kernel_rfl
theorem c26 : Tryz.prog.cellsOf 26 = 2 := by kernel_rfl
theorem c23 : Tryz.prog.cellsOf 23 = 2 := by kernel_rfl
theorem c28 : Tryz.prog.cellsOf 28 = 9 := by kernel_rfl
section
variable {H : Type} {enc : TypeId × Value → H} {w : World} {base : Nat} {sp : Nat → Bool} {held : Bool} {fuel : Nat} {cs : List Value} {x : DataW H × List MemPlace}
def datW (h l : Int) : DataW H := .agg [.lit (.int .u64 h), .lit (.int .u64 l)]
def datF (h l : Int) : DataW H := .agg [.lit (.int .i64 h), .lit (.int .i64 l)]
theorem trod_word (h : DataW.trod enc Tryz.prog w base sp held fuel 26 cs = some x) : ∃ a b, cs = [.int .u64 a, .int .u64 b] ∧ x = (datW a b, []) ∧ (Lit.int .u64 a).wf = true ∧ (Lit.int .u64 b).wf = true := by
  obtain ⟨xs, n, _, rfl, hlen, hl, hf⟩ := DataW.trod_struct Tryz.underlying26 h
  rw [c26] at hlen
  obtain ⟨y0, y1, rfl⟩ := len2 (show xs.length = 2 from hl)
  obtain ⟨k0, k1, rfl⟩ := len2 hlen
  · clear h
    have h0 := hf 0 _ rfl
    have h1 := hf 1 _ rfl
    simp [c24] at h0 h1
    obtain ⟨a, e0, rfl, s0⟩ := DataW.trod_int Tryz.underlying24 h0
    obtain ⟨b, e1, rfl, s1⟩ := DataW.trod_int Tryz.underlying24 h1
    simp at e0 e1
    subst e0 e1
    exact ⟨a, b, rfl, rfl, s0, s1⟩
theorem trod_fmt (h : DataW.trod enc Tryz.prog w base sp held fuel 23 cs = some x) : ∃ a b, cs = [.int .i64 a, .int .i64 b] ∧ x = (datF a b, []) ∧ (Lit.int .i64 a).wf = true ∧ (Lit.int .i64 b).wf = true := by
  obtain ⟨xs, n, _, rfl, hlen, hl, hf⟩ := DataW.trod_struct Tryz.underlying23 h
  rw [c23] at hlen
  obtain ⟨y0, y1, rfl⟩ := len2 (show xs.length = 2 from hl)
  obtain ⟨k0, k1, rfl⟩ := len2 hlen
  · clear h
    have h0 := hf 0 _ rfl
    have h1 := hf 1 _ rfl
    simp [c3] at h0 h1
    obtain ⟨a, e0, rfl, s0⟩ := DataW.trod_int Tryz.underlying3 h0
    obtain ⟨b, e1, rfl, s1⟩ := DataW.trod_int Tryz.underlying3 h1
    simp at e0 e1
    subst e0 e1
    exact ⟨a, b, rfl, rfl, s0, s1⟩
def datO (E P m ah al bh bl ch cl : Int) : DataW H := .agg [datF E P, .lit (.int .i64 m), datW ah al, datW bh bl, datW ch cl]
theorem open_op {v : Value} {d : DataW H} {ps : List MemPlace} (h : DataW.Trod enc Tryz.prog w base sp held 28 v d ps) : ∃ E P m ah al bh bl ch cl, v = opV E P m ah al bh bl ch cl ∧ d = datO E P m ah al bh bl ch cl ∧ ps = [] ∧
    ((Lit.int .i64 E).wf = true ∧ (Lit.int .i64 P).wf = true ∧ (Lit.int .i64 m).wf = true) ∧ (Lit.int .u64 ah).wf = true ∧ (Lit.int .u64 al).wf = true ∧ (Lit.int .u64 bh).wf = true ∧ (Lit.int .u64 bl).wf = true ∧ (Lit.int .u64 ch).wf = true ∧ (Lit.int .u64 cl).wf = true := by
  obtain ⟨fuel, hy⟩ := h
  obtain ⟨xs, n, _, hx, hlen, hl, hf⟩ := DataW.trod_struct Tryz.underlying28 hy
  rw [c28] at hlen
  have hv : ∃ c : Array Value, v = .agg c := by
    cases v <;> first | exact ⟨_, rfl⟩ | simp [Value.cells] at hlen
  obtain ⟨c, rfl⟩ := hv
  obtain ⟨c⟩ := c
  have hcs : (Value.agg ⟨c⟩).cells.toList = c := rfl
  rw [hcs] at hlen hf
  obtain ⟨y0, y1, y2, y3, y4, rfl⟩ := len5 (show xs.length = 5 from hl)
  obtain ⟨k0, k1, k2, k3, k4, k5, k6, k7, k8, rfl⟩ := len9 hlen
  · clear hy
    have h0 := hf 0 _ rfl
    have h1 := hf 1 _ rfl
    have h2 := hf 2 _ rfl
    have h3 := hf 3 _ rfl
    have h4 := hf 4 _ rfl
    simp [c3, c23, c26] at h0 h1 h2 h3 h4
    obtain ⟨E, P, e0, rfl, sE, sP⟩ := trod_fmt h0
    obtain ⟨m, e1, rfl, sm⟩ := DataW.trod_int Tryz.underlying3 h1
    obtain ⟨ah, al, e2, rfl, s1, s2⟩ := trod_word h2
    obtain ⟨bh, bl, e3, rfl, s3, s4⟩ := trod_word h3
    obtain ⟨ch, cl, e4, rfl, s5, s6⟩ := trod_word h4
    simp at e0 e1 e2 e3 e4
    obtain ⟨rfl, rfl⟩ := e0
    obtain ⟨rfl, rfl⟩ := e2
    obtain ⟨rfl, rfl⟩ := e3
    obtain ⟨rfl, rfl⟩ := e4
    subst e1
    injection hx with hx1 hx2
    subst hx1 hx2
    exact ⟨E, P, m, ah, al, bh, bl, ch, cl, rfl, rfl, rfl, ⟨sE, sP, sm⟩, s1, s2, s3, s4, s5, s6⟩
theorem shut_op {E P m ah al bh bl ch cl : Int} (hi : (Lit.int .i64 E).wf = true ∧ (Lit.int .i64 P).wf = true ∧ (Lit.int .i64 m).wf = true)
    (s1 : (Lit.int .u64 ah).wf = true) (s2 : (Lit.int .u64 al).wf = true) (s3 : (Lit.int .u64 bh).wf = true) (s4 : (Lit.int .u64 bl).wf = true) (s5 : (Lit.int .u64 ch).wf = true) (s6 : (Lit.int .u64 cl).wf = true) :
    DataW.Trod enc Tryz.prog w base sp held 28 (opV E P m ah al bh bl ch cl) (datO E P m ah al bh bl ch cl) [] := by
  obtain ⟨i1, i2, i3⟩ := hi
  refine ⟨3, ?_⟩
  simp [DataW.trod, opV, datO, datW, datF, Value.cells, Tryz.underlying28, Tryz.underlying23, Tryz.underlying26, Tryz.underlying3, Tryz.underlying24, c3, c24, c26, c23, c28, i1, i2, i3, s1, s2, s3, s4, s5, s6, List.range, List.range.loop]
end
theorem wB_of {a b : Int} (h0 : (Lit.int .u64 a).wf = true) (h1 : (Lit.int .u64 b).wf = true) : wB (wv a b) = true := by
  have := bounds_u64 h0
  have := bounds_u64 h1
  show decide (0 ≤ a ∧ a < 18446744073709551616 ∧ 0 ≤ b ∧ b < 18446744073709551616) = true
  exact decide_eq_true ⟨by omega, by omega, by omega, by omega⟩
end Go.Proofs.YtaeekmlnfjimjaaGreatDoor
