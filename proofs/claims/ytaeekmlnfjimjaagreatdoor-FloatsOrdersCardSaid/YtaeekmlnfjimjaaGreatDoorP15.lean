/-
  Part of a proof. No conditions.
-/
import Derived.Test.YtaeekmlnfjimjaaGreatDoorP09
import Derived.Test.YtaeekmlnfjimjaaGreatDoorP10
import Derived.Deep.RegionHeld3
set_option linter.unusedVariables false
set_option linter.unusedSimpArgs false
set_option linter.unusedSectionVars false
namespace Go.Proofs.YtaeekmlnfjimjaaGreatDoor.R
/-- 10^9, closed to simp and omega -/
def pw : Int := 1000000000
theorem pw_eq : pw = 1000000000 := rfl
theorem pw_pos : 0 < pw := by decide

def nv : List Int → Int
  | [] => 0
  | z :: zs => z + pw * nv zs

def Wd (zs : List Int) : Prop := ∀ z ∈ zs, 0 ≤ z ∧ z < pw

theorem Wd_nil : Wd [] := fun _ h => by cases h
theorem Wd_cons {z : Int} {zs : List Int} : Wd (z :: zs) ↔ (0 ≤ z ∧ z < pw) ∧ Wd zs := by
  unfold Wd; simp
theorem Wd_append {a b : List Int} : Wd (a ++ b) ↔ Wd a ∧ Wd b := by
  unfold Wd; constructor
  · intro h; exact ⟨fun z hz => h z (by simp [hz]), fun z hz => h z (by simp [hz])⟩
  · intro h z hz; rcases List.mem_append.1 hz with hz | hz
    · exact h.1 z hz
    · exact h.2 z hz

theorem nv_append (a b : List Int) : nv (a ++ b) = nv a + pw ^ a.length * nv b := by
  induction a with
  | nil => simp [nv]
  | cons z zs ih => simp only [List.cons_append, nv, ih, List.length_cons, Int.pow_succ]; grind

theorem nv_nonneg {zs : List Int} (h : Wd zs) : 0 ≤ nv zs := by
  induction zs with
  | nil => simp [nv]
  | cons z zs ih =>
    have h' := Wd_cons.1 h
    have := ih h'.2
    have := Int.mul_nonneg (Int.le_of_lt pw_pos) this
    simp only [nv]; omega

theorem ppos (n : Nat) : 0 < pw ^ n := Int.pow_pos pw_pos

theorem pow_mono {a b : Nat} (h : a ≤ b) : pw ^ a ≤ pw ^ b := by
  obtain ⟨c, rfl⟩ := Nat.exists_eq_add_of_le h
  rw [Int.pow_add]
  have h1 : 1 ≤ pw ^ c := ppos c
  have := Int.mul_le_mul_of_nonneg_left h1 (Int.le_of_lt (ppos a))
  omega

theorem nv_lt {zs : List Int} (h : Wd zs) : nv zs < pw ^ zs.length := by
  induction zs with
  | nil => simp [nv]
  | cons z zs ih =>
    have h' := Wd_cons.1 h
    have i1 := ih h'.2
    simp only [nv, List.length_cons, Int.pow_succ]
    have : pw * nv zs ≤ pw * (pw ^ zs.length - 1) := Int.mul_le_mul_of_nonneg_left (by omega) (Int.le_of_lt pw_pos)
    have : pw * (pw ^ zs.length - 1) = pw ^ zs.length * pw - pw := by grind
    omega

/-- element, 0 beyond the end; closed to simp -/
def gd (zs : List Int) (n : Nat) : Int := zs.getD n 0
theorem gd_get {zs : List Int} {n : Nat} (h : n < zs.length) : gd zs n = zs[n] := by simp [gd, h]
theorem gd_over {zs : List Int} {n : Nat} (h : zs.length ≤ n) : gd zs n = 0 := by simp [gd, h]
theorem gd_cons_zero (z : Int) (zs : List Int) : gd (z :: zs) 0 = z := by simp [gd]
theorem gd_cons_succ (z : Int) (zs : List Int) (n : Nat) : gd (z :: zs) (n + 1) = gd zs n := by simp [gd]
theorem gd_set_eq {zs : List Int} {j : Nat} {x : Int} (h : j < zs.length) : gd (zs.set j x) j = x := by simp [gd, h]
theorem gd_set_ne {zs : List Int} {i j : Nat} {x : Int} (h : i ≠ j) : gd (zs.set j x) i = gd zs i := by simp [gd, Ne.symm h]

theorem nv_set (zs : List Int) (j : Nat) (x : Int) (h : j < zs.length) : nv (zs.set j x) = nv zs + pw ^ j * (x - gd zs j) := by
  induction zs generalizing j with
  | nil => simp at h
  | cons z zs ih =>
    cases j with
    | zero => simp [nv, gd_cons_zero]; grind
    | succ j =>
      have := ih j (by simpa using h)
      simp only [List.set_cons_succ, nv, this, gd_cons_succ, Int.pow_succ]; grind

theorem Wd_set {zs : List Int} {j : Nat} {x : Int} (h : Wd zs) (hx : 0 ≤ x ∧ x < pw) : Wd (zs.set j x) := by
  intro z hz
  rcases List.mem_or_eq_of_mem_set hz with h1 | h1
  · exact h z h1
  · exact h1 ▸ hx

theorem Wd_gd {zs : List Int} (h : Wd zs) (j : Nat) : 0 ≤ gd zs j ∧ gd zs j < pw := by
  by_cases hj : j < zs.length
  · rw [gd_get hj]; exact h _ (List.getElem_mem hj)
  · rw [gd_over (by omega)]; exact ⟨by omega, pw_pos⟩

theorem Wd_take {zs : List Int} (h : Wd zs) (n : Nat) : Wd (zs.take n) := fun z hz => h z (List.mem_of_mem_take hz)
theorem Wd_drop {zs : List Int} (h : Wd zs) (n : Nat) : Wd (zs.drop n) := fun z hz => h z (List.mem_of_mem_drop hz)

theorem nv_replicate (n : Nat) : nv (List.replicate n 0) = 0 := by
  induction n with
  | zero => rfl
  | succ n ih => simp [List.replicate_succ, nv, ih]
theorem Wd_replicate (n : Nat) : Wd (List.replicate n 0) := by
  intro z hz; have := (List.mem_replicate.1 hz).2; subst this; exact ⟨by omega, pw_pos⟩

theorem nv_take_succ (zs : List Int) (n : Nat) (h : n < zs.length) : nv (zs.take (n + 1)) = nv (zs.take n) + pw ^ n * gd zs n := by
  rw [List.take_succ_eq_append_getElem h, nv_append]
  simp [nv, List.length_take, Nat.min_eq_left (Nat.le_of_lt h), gd_get h]

theorem nv_take_drop (zs : List Int) (n : Nat) (h : n ≤ zs.length) : nv zs = nv (zs.take n) + pw ^ n * nv (zs.drop n) := by
  conv => lhs; rw [← List.take_append_drop n zs]
  rw [nv_append]; simp [List.length_take, Nat.min_eq_left h]

/-- canonical: no zero at the end -/
def Can (zs : List Int) : Prop := zs ≠ [] → gd zs (zs.length - 1) ≠ 0

theorem nv_ge {zs : List Int} (h : Wd zs) (hc : Can zs) (hne : zs ≠ []) : pw ^ (zs.length - 1) ≤ nv zs := by
  have hl : 0 < zs.length := List.length_pos_iff.2 hne
  have := nv_take_drop zs (zs.length - 1) (by omega)
  have h1 := nv_nonneg (Wd_take h (zs.length - 1))
  have h2 : zs.drop (zs.length - 1) = [gd zs (zs.length - 1)] := by
    rw [List.drop_eq_getElem_cons (by omega), List.drop_eq_nil_of_le (by omega), gd_get (by omega)]
  rw [h2] at this
  have h3 := hc hne
  have h4 := Wd_gd h (zs.length - 1)
  simp only [nv] at this
  have : pw ^ (zs.length - 1) * 1 ≤ pw ^ (zs.length - 1) * gd zs (zs.length - 1) := Int.mul_le_mul_of_nonneg_left (by omega) (Int.le_of_lt (ppos _))
  grind

theorem nv_pos {zs : List Int} (h : Wd zs) (hc : Can zs) (hne : zs ≠ []) : 0 < nv zs := Int.lt_of_lt_of_le (ppos _) (nv_ge h hc hne)
end Go.Proofs.YtaeekmlnfjimjaaGreatDoor.R
/-
  What the reference's digits stand for, in a world: rows of int64 below 10^9.
-/
namespace Go.Proofs.YtaeekmlnfjimjaaGreatDoor.R
open Go.RowKit Go.Shelf

/-- The digits of a slice of int64 at an address. -/
def Row (w : World) (b off : Nat) (zs : List Int) : Prop := ∀ i, i < zs.length → w.cell? ⟨b, off + i, none⟩ = some (.int .i64 (gd zs i))
/-- a block of digits -/
def Typ (w : World) (b : Nat) : Prop := ∃ c f, w.heap[b]? = some (.cells c 2 f)
/-- A slice that is not empty, whose digits are a canonical list with the number n. -/
structure Ns (w : World) (b off cap : Nat) (zs : List Int) (n : Int) : Prop where
  cap : zs.length ≤ cap
  pos : 0 < zs.length
  lt : b < w.heap.size
  wd : Wd zs
  top : gd zs (zs.length - 1) ≠ 0
  val : nv zs = n
  row : Row w b off zs
  ty : Typ w b
theorem Typ.lt {w : World} {b : Nat} (h : Typ w b) : b < w.heap.size := by
  obtain ⟨c, f, h⟩ := h
  exact (Array.getElem?_eq_some_iff.1 h).1
theorem Typ.below {w w' : World} {b : Nat} (h : Typ w b) (hw : Below w.heap.size w w') : Typ w' b := by
  have hl := h.lt
  obtain ⟨c, f, h⟩ := h
  exact ⟨c, f, (hw.block b hl).trans h⟩
/-- A slice of digits with the number n: an empty one for 0. -/
def Nt (w : World) (v : Value) (n : Int) : Prop :=
  (n = 0 ∧ ∃ p cap, v = .slice p 0 cap ∧ (p = none → cap = 0)) ∨ ∃ (b off cap : Nat) (zs : List Int), v = .slice (some ⟨b, off, none⟩) zs.length cap ∧ Ns w b off cap zs n
theorem Row.below {w w' : World} {b off : Nat} {zs : List Int} (h : Row w b off zs) (hb : b < w.heap.size) (hw : Below w.heap.size w w') : Row w' b off zs :=
  fun i hi => (hw.cell (p := ⟨b, off + i, none⟩) hb).trans (h i hi)
theorem Ns.below {w w' : World} {b off cap : Nat} {zs : List Int} {n : Int} (h : Ns w b off cap zs n) (hw : Below w.heap.size w w') : Ns w' b off cap zs n :=
  { h with lt := Nat.lt_of_lt_of_le h.lt hw.size, row := h.row.below h.lt hw, ty := h.ty.below hw }
theorem Nt.below {w w' : World} {v : Value} {n : Int} (h : Nt w v n) (hw : Below w.heap.size w w') : Nt w' v n := by
  rcases h with h | ⟨b, off, cap, zs, e, h⟩
  · exact .inl h
  · exact .inr ⟨b, off, cap, zs, e, h.below hw⟩
theorem Ns.nt {w : World} {b off cap : Nat} {zs : List Int} {n : Int} (h : Ns w b off cap zs n) : Nt w (.slice (some ⟨b, off, none⟩) zs.length cap) n := .inr ⟨b, off, cap, zs, rfl, h⟩
theorem Nt.zero (w : World) : Nt w (.slice none 0 0) 0 := .inl ⟨rfl, none, 0, rfl, fun _ => rfl⟩
theorem Ns.can {w : World} {b off cap : Nat} {zs : List Int} {n : Int} (h : Ns w b off cap zs n) : Can zs := fun _ => h.top
theorem Ns.ne {w : World} {b off cap : Nat} {zs : List Int} {n : Int} (h : Ns w b off cap zs n) : zs ≠ [] := List.ne_nil_of_length_pos h.pos
theorem Ns.npos {w : World} {b off cap : Nat} {zs : List Int} {n : Int} (h : Ns w b off cap zs n) : 0 < n := h.val ▸ nv_pos h.wd h.can h.ne
theorem Nt.nonneg {w : World} {v : Value} {n : Int} (h : Nt w v n) : 0 ≤ n := by
  rcases h with h | ⟨b, off, cap, zs, e, h⟩
  · omega
  · have := h.npos; omega
theorem Nt.pos {w : World} {v : Value} {n : Int} (h : Nt w v n) (h0 : n ≠ 0) : ∃ (b off cap : Nat) (zs : List Int), v = .slice (some ⟨b, off, none⟩) zs.length cap ∧ Ns w b off cap zs n := by
  rcases h with h | h
  · exact absurd h.1 h0
  · exact h
theorem Nt.shape {w : World} {v : Value} {n : Int} (h : Nt w v n) : ∃ bo lb cb, v = .slice bo lb cb := by
  rcases h with ⟨_, p, cap, rfl, _⟩ | ⟨b, off, cap, zs, rfl, h⟩ <;> exact ⟨_, _, _, rfl⟩
/-- what no number of this work reaches -/
def big : Int := pw ^ 2000
theorem len_of_lt {zs : List Int} {n : Int} {k : Nat} (hw : Wd zs) (hc : Can zs) (hv : nv zs = n) (h : n < pw ^ k) : zs.length ≤ k := by
  apply Classical.byContradiction
  intro hk
  have hne : zs ≠ [] := by intro e; subst e; simp at hk
  have h1 := nv_ge hw hc hne
  have h2 : pw ^ k ≤ pw ^ (zs.length - 1) := pow_mono (by omega)
  omega
theorem Ns.len {w : World} {b off cap : Nat} {zs : List Int} {n : Int} (h : Ns w b off cap zs n) (hb : n < big) : zs.length ≤ 2000 := len_of_lt h.wd h.can h.val hb
theorem gd_bounds {zs : List Int} (h : Wd zs) (i : Nat) : 0 ≤ gd zs i ∧ gd zs i < 1000000000 := Wd_gd h i
def NewNt (w : World) (n : Int) (e : Ending) (w' : World) : Prop := ∃ v, e = .returned v ∧ Nt w' v n ∧ Below w.heap.size w w'
def lenV : Value → Nat
  | .slice _ m _ => m
  | _ => 0

/-! blocks that a call has made -/
def Blk (w : World) (g : Nat) (L : List Int) : Prop := w.heap[g]? = some (.cells (L.map (Value.int .i64)).toArray 2 (0, 0))
theorem Blk.cell {w : World} {g : Nat} {L : List Int} (h : Blk w g L) (i : Nat) (hi : i < L.length) : w.cell? ⟨g, i, none⟩ = some (.int .i64 (gd L i)) := by
  rw [cell_of_row w g i _ 2 (0, 0) h]
  simp [gd_get hi, hi]
theorem Blk.frozen {w : World} {g : Nat} {L : List Int} (h : Blk w g L) (i : Nat) : w.frozen? ⟨g, i, none⟩ = false := frozen_of_row w g i _ 2 h
theorem Blk.set {w : World} {g : Nat} {L : List Int} (h : Blk w g L) (i : Nat) (x : Int) : Blk (w.setCell ⟨g, i, none⟩ (.int .i64 x)) g (L.set i x) := by
  unfold Blk
  rw [heap_setCell_same w g i _ 2 _ h]
  congr 2
  simp [List.map_set]
theorem Blk.lt {w : World} {g : Nat} {L : List Int} (h : Blk w g L) : g < w.heap.size := lt_of_block h
theorem Blk.below {w w' : World} {g B : Nat} {L : List Int} (h : Blk w g L) (hg : g < B) (hw : Below B w w') : Blk w' g L := (hw.block g hg).trans h
theorem Blk.drw {w w' : World} {g : Nat} {L : List Int} (h : Blk w g L) (hd : Drw w w') : Blk w' g L := by unfold Blk; rw [hd.heap]; exact h
theorem Blk.typ {w : World} {g : Nat} {L : List Int} (h : Blk w g L) : Typ w g := ⟨_, _, h⟩
theorem Blk.row {w : World} {g : Nat} {L : List Int} (h : Blk w g L) : Row w g 0 L := fun i hi => by rw [Nat.zero_add]; exact h.cell i hi
theorem infoI : (Tryz.prog.info? 2).map (fun i => (i.zero, i.size, i.bytes)) = some (some (.int .i64 0), 1, 8) := by kernel_rfl
theorem blk_made {w w' : World} {n : Nat} (h : w'.ownsRow w.heap.size 2 1 (.slice (some ⟨w.heap.size, 0, none⟩) n n) n (madeCells (Value.int .i64 0).cells (n * 1)).toList) : Blk w' w.heap.size (List.replicate n 0) := by
  obtain ⟨h1, h2⟩ := h
  rcases h2 with ⟨h', _⟩ | ⟨g, cap, cur, h', _, hg, h3, _, h5, h6⟩
  · cases h'
  · injection h' with h7 h8 h9
    injection h7 with h7
    injection h7 with h7
    subst h7
    subst h9
    unfold Blk
    rw [hg]
    congr 2
    have e1 : cur.toList = (madeCells (Value.int .i64 0).cells (n * 1)).toList := by
      rw [← h6, List.take_of_length_le (by simp [h5])]
    have e2 : (madeCells (Value.int .i64 0).cells (n * 1)).toList = List.replicate (n * 1) (Value.int .i64 0) := toList_madeCells_one _ _
    have e3 : cur = (List.replicate (n * 1) (Value.int .i64 0)).toArray := by
      rw [← Array.toArray_toList (xs := cur), e1, e2]
    rw [e3, Nat.mul_one, List.map_replicate]
end Go.Proofs.YtaeekmlnfjimjaaGreatDoor.R
/-
  The reference's trim and compare.
-/
namespace Go.Proofs.YtaeekmlnfjimjaaGreatDoor.R
open Go.RowKit Go.Shelf

def CutPost (w : World) (a : Addr) (cap : Nat) (zs : List Int) (e : Ending) (w' : World) : Prop :=
  w = w' ∧ ∃ m : Nat, m ≤ zs.length ∧ (m ≠ 0 → gd zs (m - 1) ≠ 0) ∧ (∀ j, m ≤ j → gd zs j = 0) ∧ e = .returned (.slice (some a) m cap)
set_option maxHeartbeats 400000 in
theorem trim_any (b off cap : Nat) (zs : List Int) (w : World) (hl : zs.length ≤ 9223372036854775807) (hcap : zs.length ≤ cap)
    (hc : ∀ i, i < zs.length → w.cell? ⟨b, off + i, none⟩ = some (.int .i64 (gd zs i))) :
    Calls Tryz.prog 201 #[.slice (some ⟨b, off, none⟩) zs.length cap] w (CutPost w ⟨b, off, none⟩ cap zs) := by
  obtain ⟨n, hn⟩ : ∃ n, zs.length = n := ⟨_, rfl⟩
  have HN : Hid (zs.length = n) := Lib.hid hn
  rw [hn] at hl hcap hc ⊢
  clear hn
  go_enter Tryz.func201, Tryz.ntmps201
  go_wp2_with fail
  go_loop [0] (fun i => ∃ m : Nat, m ≤ n ∧ i = .slice (some ⟨b, off, none⟩) m cap ∧ Hid (∀ j, m ≤ j → gd zs j = 0)) lenV
  case atStart => exact ⟨n, Nat.le_refl _, rfl, Lib.hid fun j hj => gd_over (by rw [HN.out]; exact hj)⟩
  case round =>
    obtain ⟨m, hm, rfl, hz⟩ := hrel
    rcases m with _ | m
    · clear hc
      go_wp2
      go_ret
      exact ⟨rfl, 0, by omega, fun h => absurd rfl h, hz.out, rfl⟩
    · have hcm := hc m (by omega)
      clear hc
      by_cases h0 : gd zs m = 0
      · have HZ : Hid (∀ j, m ≤ j → gd zs j = 0) := Lib.hid fun j hj => by
          by_cases e : j = m
          · subst e; exact h0
          · exact hz.out j (by omega)
        rw [h0] at hcm
        clear hz h0
        go_wp2
        go_round
        case rel => exact ⟨m, by omega, by first | rfl | go_num | skip, HZ⟩
        case measure => simp [lenV]
      · have hb : (gd zs m == 0) = false := by simpa using h0
        have H0 := Lib.hid h0
        clear h0
        go_wp2
        go_ret
        exact ⟨rfl, m + 1, by rw [HN.out]; omega, fun _ => H0.out, hz.out, rfl⟩
theorem nv_cut {zs : List Int} {m : Nat} (hm : m ≤ zs.length) (h : ∀ j, m ≤ j → gd zs j = 0) : nv (zs.take m) = nv zs := by
  have h1 := nv_take_drop zs m hm
  have h2 : nv (zs.drop m) = 0 := by
    have : ∀ (l : List Int), (∀ j, gd l j = 0) → nv l = 0 := by
      intro l
      induction l with
      | nil => intro _; rfl
      | cons z l ih =>
        intro hl
        have h0 := hl 0
        rw [gd_cons_zero] at h0
        simp only [nv]
        rw [h0, ih (fun j => by have := hl (j + 1); rwa [gd_cons_succ] at this)]; simp
    refine this _ fun j => ?_
    have := h (m + j) (by omega)
    unfold gd at this ⊢
    simpa using this
  rw [h2] at h1
  simpa using h1.symm
theorem gd_take {zs : List Int} {m i : Nat} (h : i < m) : gd (zs.take m) i = gd zs i := by
  unfold gd; simp [List.getElem?_take, h]
/-- what trim makes of a row -/
theorem nt_trim {w : World} {b off cap : Nat} {zs : List Int} (hr : Row w b off zs) (hb : Typ w b) (hw : Wd zs) (hcap : zs.length ≤ cap) (m : Nat) (hm : m ≤ zs.length) (h1 : m ≠ 0 → gd zs (m - 1) ≠ 0) (h2 : ∀ j, m ≤ j → gd zs j = 0) : Nt w (.slice (some ⟨b, off, none⟩) m cap) (nv zs) := by
  have hv := nv_cut hm h2
  by_cases h0 : m = 0
  · subst h0
    rw [← hv]
    exact .inl ⟨rfl, _, _, rfl, fun h => by cases h⟩
  · have hl : (zs.take m).length = m := by simp [Nat.min_eq_left hm]
    refine .inr ⟨b, off, cap, zs.take m, by rw [hl], ⟨by omega, by omega, hb.lt, Wd_take hw m, ?_, hv, fun i hi => ?_, hb⟩⟩
    · rw [hl, gd_take (by omega)]; exact h1 h0
    · rw [gd_take (by omega)]; exact hr i (by omega)
end Go.Proofs.YtaeekmlnfjimjaaGreatDoor.R
/-
  The reference's compare.
-/
namespace Go.Proofs.YtaeekmlnfjimjaaGreatDoor.R
open Go.RowKit Go.Shelf

theorem nv_lt_of {za zb : List Int} (ha : Wd za) (hb : Wd zb) (hl : za.length = zb.length) (i : Nat) (hi : i < za.length) (hz : ∀ j, i < j → gd za j = gd zb j) (hlt : gd za i < gd zb i) : nv za < nv zb := by
  have h1 := nv_take_drop za (i + 1) (by omega)
  have h2 := nv_take_drop zb (i + 1) (by omega)
  have h3 : za.drop (i + 1) = zb.drop (i + 1) := by
    refine List.ext_getElem (by simp [hl]) ?_
    intro j h4 h5
    have h6 := hz (i + 1 + j) (by omega)
    rw [gd_get (by simp at h4; omega), gd_get (by simp at h5; omega)] at h6
    simpa using h6
  rw [nv_take_succ za i hi, h3] at h1
  rw [nv_take_succ zb i (by omega)] at h2
  have h4 := nv_lt (Wd_take ha i)
  have h5 := nv_nonneg (Wd_take hb i)
  rw [List.length_take, Nat.min_eq_left (by omega)] at h4
  have h6 := Int.mul_le_mul_of_nonneg_left (show gd za i ≤ gd zb i - 1 by omega) (Int.le_of_lt (ppos i))
  rw [Int.mul_sub] at h6
  omega

theorem nv_len_lt {za zb : List Int} (ha : Wd za) (hb : Wd zb) (cb : Can zb) (nb : zb ≠ []) (hl : za.length < zb.length) : nv za < nv zb := by
  have h1 := nv_lt ha
  have h2 := nv_ge hb cb nb
  have h3 : pw ^ za.length ≤ pw ^ (zb.length - 1) := pow_mono (by omega)
  omega


theorem cmp_lt (ao bo : Option Addr) (la lb ca cb : Nat) (w : World) (hla : la ≤ 2000) (hlb : lb ≤ 2000) (hne : la < lb) :
    Calls Tryz.prog 131 #[.slice ao la ca, .slice bo lb cb] w fun e w' => e = .returned (.int .i64 (-1)) ∧ w = w' := by
  have hb : ((la : Int) != lb) = true := by simp; omega
  go_enter Tryz.func131, Tryz.ntmps131
  go_wp2_with fail
  go_ret
  exact ⟨rfl, rfl⟩
theorem cmp_gt (ao bo : Option Addr) (la lb ca cb : Nat) (w : World) (hla : la ≤ 2000) (hlb : lb ≤ 2000) (hne : lb < la) :
    Calls Tryz.prog 131 #[.slice ao la ca, .slice bo lb cb] w fun e w' => e = .returned (.int .i64 1) ∧ w = w' := by
  have hb : ((la : Int) != lb) = true := by simp; omega
  have hb2 : ¬ (la : Int) < lb := by omega
  go_enter Tryz.func131, Tryz.ntmps131
  go_wp2_with fail
  go_ret
  exact ⟨rfl, rfl⟩
theorem cmp_nil (w : World) (ao bo : Option Addr) (ca cb : Nat) : Calls Tryz.prog 131 #[.slice ao 0 ca, .slice bo 0 cb] w fun e w' => e = .returned (.int .i64 0) ∧ w = w' := by
  go_enter Tryz.func131, Tryz.ntmps131
  go_wp2
  refine wp_loop_rounds 1 ?_
  rw [rounds_succ]
  go_wp2
  go_ret
  exact ⟨rfl, rfl⟩
set_option maxHeartbeats 1000000 in
theorem cmp_eq (w : World) (b off cap b2 off2 cap2 : Nat) (za zb : List Int) (hl : za.length = zb.length) (hk : za.length ≤ 2000) (hca : za.length ≤ cap) (hcb : zb.length ≤ cap2) (ha : Wd za) (hb : Wd zb)
    (ra : Row w b off za) (rb : Row w b2 off2 zb) :
    Calls Tryz.prog 131 #[.slice (some ⟨b, off, none⟩) za.length cap, .slice (some ⟨b2, off2, none⟩) zb.length cap2] w (DrewPost w (.int .i64 (cmpI (nv za) (nv zb)))) := by
  rw [← hl] at hcb ⊢
  have HL := Lib.hid hl
  clear hl
  obtain ⟨k, hk'⟩ : ∃ k, za.length = k := ⟨_, rfl⟩
  have HK := Lib.hid hk'
  rw [hk'] at hk hca hcb ⊢
  clear hk'
  have hne : ((k : Int) != k) = false := by simp
  have RA := Lib.hid ra
  have RB := Lib.hid rb
  have HA := Lib.hid ha
  have HB := Lib.hid hb
  clear ra rb ha hb
  go_enter Tryz.func131, Tryz.ntmps131
  go_wp2_with fail
  go_loopw [5] (fun i wr => ∃ m : Nat, m ≤ k ∧ i = .int .i64 ((m : Int) - 1) ∧ Drw w wr ∧ Hid (∀ j, m ≤ j → gd za j = gd zb j)) (fun i _ => (intOf i + 1).toNat)
  case atStart => exact ⟨k, Nat.le_refl _, by go_num, Drw.refl _, Lib.hid fun j hj => by rw [gd_over (by rw [HK.out]; exact hj), gd_over (by rw [← HL.out, HK.out]; exact hj)]⟩
  case round =>
    obtain ⟨m, hm, rfl, hd, hz⟩ := hrel
    rcases m with _ | m
    · go_wp2_with fail
      go_ret
      have e : za = zb := by
        refine List.ext_getElem (by rw [HL.out]) ?_
        intro j h4 h5
        have h6 := hz.out j (by omega)
        rwa [gd_get h4, gd_get h5] at h6
      exact ⟨by rw [e, cmpI_eq]; rfl, hd⟩
    · have e : (((m + 1 : Nat) : Int) - 1) = (m : Int) := by omega
      rw [e]
      clear e
      have hca1 := (hd.cell _).trans (RA.out m (by rw [HK.out]; omega))
      have hcb1 := (hd.cell _).trans (RB.out m (by rw [← HL.out, HK.out]; omega))
      have HD := Lib.hid hd
      clear hd
      by_cases h0 : gd za m < gd zb m
      · have H0 := Lib.hid h0
        go_wp2_with fail
        go_quiet (fail)
        go_wp2_with fail
        go_ret
        refine ⟨?_, HD.out.trans (Drw.step _ _)⟩
        rw [cmpI_lt (nv_lt_of HA.out HB.out HL.out m (by rw [HK.out]; omega) (fun j hj => hz.out j (by omega)) H0.out)]; rfl
      · by_cases h1 : gd zb m < gd za m
        · have H1 := Lib.hid h1
          go_wp2_with fail
          go_quiet (fail)
          go_wp2_with fail
          generalize hwq : wr.drewN nq = wq
          have hcb2 : wq.cell? { block := b2, off := off2 + m } = some (Value.int IntKind.i64 (gd zb m)) := by rw [← hwq]; exact hcb1
          have hca2 : wq.cell? { block := b, off := off + m } = some (Value.int IntKind.i64 (gd za m)) := by rw [← hwq]; exact hca1
          have HQ : Hid (Drw wr wq) := Lib.hid (hwq ▸ Drw.step wr _)
          clear hwq hca1 hcb1
          go_quiet (fail)
          go_wp2_with fail
          go_ret
          refine ⟨?_, HD.out.trans (HQ.out.trans (Drw.step _ _))⟩
          rw [cmpI_gt (nv_lt_of HB.out HA.out HL.out.symm m (by rw [← HL.out, HK.out]; omega) (fun j hj => (hz.out j (by omega)).symm) H1.out)]; rfl
        · have h2 : gd za m = gd zb m := by omega
          have HZ : Hid (∀ j, m ≤ j → gd za j = gd zb j) := Lib.hid fun j hj => by
            by_cases e : j = m
            · subst e; exact h2
            · exact hz.out j (by omega)
          rw [h2] at hca1
          clear hz h0 h1 h2
          go_wp2_with fail
          go_quiet (fail)
          go_wp2_with fail
          generalize hwq : wr.drewN nq = wq
          have hcb2 : wq.cell? { block := b2, off := off2 + m } = some (Value.int IntKind.i64 (gd zb m)) := by rw [← hwq]; exact hcb1
          have hca2 : wq.cell? { block := b, off := off + m } = some (Value.int IntKind.i64 (gd zb m)) := by rw [← hwq]; exact hca1
          have HQ : Hid (Drw wr wq) := Lib.hid (hwq ▸ Drw.step wr _)
          clear hwq hca1 hcb1
          go_quiet (fail)
          go_wp2_with fail
          go_roundw
          case rel => exact ⟨m, by omega, by go_num, HD.out.trans (HQ.out.trans (Drw.step _ _)), HZ⟩
          case measure => simp [intOf] <;> omega
theorem Ns.lt_of_len {w : World} {b off cap b2 off2 cap2 : Nat} {za zb : List Int} {x y : Int} (h : Ns w b off cap za x) (h2 : Ns w b2 off2 cap2 zb y) (hl : za.length < zb.length) : x < y := by
  have := nv_len_lt h.wd h2.wd h2.can h2.ne hl
  rwa [h.val, h2.val] at this
theorem compare_any (w : World) (va vb : Value) (x y : Int) (ha : Nt w va x) (hb : Nt w vb y) (hx : x < big) (hy : y < big) :
    Calls Tryz.prog 131 #[va, vb] w (DrewPost w (.int .i64 (cmpI x y))) := by
  rcases ha with ⟨rfl, p, c, rfl, _⟩ | ⟨b, off, cap, za, rfl, ha⟩ <;> rcases hb with ⟨rfl, p2, c2, rfl, _⟩ | ⟨b2, off2, cap2, zb, rfl, hb⟩
  · refine (cmp_nil w _ _ _ _).mono ?_
    rintro e w' ⟨rfl, rfl⟩
    exact ⟨by rw [cmpI_eq], Drw.refl _⟩
  · have h1 := hb.len hy; have h2 := hb.pos; have h3 := hb.npos
    refine (cmp_lt _ _ _ _ _ _ w (by omega) h1 (by omega)).mono ?_
    rintro e w' ⟨rfl, rfl⟩
    exact ⟨by rw [cmpI_lt h3], Drw.refl _⟩
  · have h1 := ha.len hx; have h2 := ha.pos; have h3 := ha.npos
    refine (cmp_gt _ _ _ _ _ _ w h1 (by omega) (by omega)).mono ?_
    rintro e w' ⟨rfl, rfl⟩
    exact ⟨by rw [cmpI_gt h3], Drw.refl _⟩
  · have h1 := hb.len hy; have h2 := ha.len hx
    rcases Nat.lt_trichotomy za.length zb.length with h | h | h
    · refine (cmp_lt _ _ _ _ _ _ w h2 h1 (by omega)).mono ?_
      rintro e w' ⟨rfl, rfl⟩
      exact ⟨by rw [cmpI_lt (ha.lt_of_len hb h)], Drw.refl _⟩
    · have := cmp_eq w b off cap b2 off2 cap2 za zb h h2 ha.cap hb.cap ha.wd hb.wd ha.row hb.row
      rw [ha.val, hb.val] at this
      exact this
    · refine (cmp_gt _ _ _ _ _ _ w h2 h1 (by omega)).mono ?_
      rintro e w' ⟨rfl, rfl⟩
      exact ⟨by rw [cmpI_gt (hb.lt_of_len ha h)], Drw.refl _⟩
end Go.Proofs.YtaeekmlnfjimjaaGreatDoor.R
/-
  The reference's half and odd.
-/
namespace Go.Proofs.YtaeekmlnfjimjaaGreatDoor.R
open Go.RowKit Go.Shelf

theorem gd_zeros (n j : Nat) : gd (List.replicate n 0) j = 0 := by
  unfold gd
  rw [List.getD_eq_getElem?_getD, List.getElem?_replicate]
  split <;> rfl
theorem nv_take_all (zs : List Int) (n : Nat) : nv (zs.take (n + 1)) = nv (zs.take n) + pw ^ n * gd zs n := by
  by_cases h : n < zs.length
  · exact nv_take_succ zs n h
  · rw [List.take_of_length_le (by omega), List.take_of_length_le (by omega), gd_over (by omega)]; simp
/-- what half's loop keeps, m digits to come -/
structure HalfInv (g : Nat) (za : List Int) (m : Nat) (w : World) (c : Int) (L : List Int) : Prop where
  len : L.length = za.length
  wd : Wd L
  c0 : 0 ≤ c
  c1 : c ≤ 1
  val : 2 * nv L + c * pw ^ m = nv za - nv (za.take m)
  low : ∀ j, j < m → gd L j = 0
  blk : Blk w g L
theorem half_step {g : Nat} {za : List Int} {m : Nat} {w w2 : World} {c : Int} {L : List Int} (hm : m < za.length) (hw : Wd za) (h : HalfInv g za (m + 1) w c L) (hB : Blk w2 g (L.set m ((c * 1000000000 + gd za m) / 2))) :
    HalfInv g za m w2 ((c * 1000000000 + gd za m) % 2) (L.set m ((c * 1000000000 + gd za m) / 2)) := by
  obtain ⟨z0, z1⟩ := gd_bounds hw m
  have c0 := h.c0
  have c1 := h.c1
  refine ⟨by simp [h.len], Wd_set h.wd ⟨by omega, by show _ < (1000000000 : Int); omega⟩, by omega, by omega, ?_, ?_, hB⟩
  · rw [nv_set _ _ _ (by rw [h.len]; exact hm), h.low m (by omega), Int.sub_zero]
    have hv := h.val
    rw [nv_take_all, Int.pow_succ] at hv
    have e := Int.mul_ediv_add_emod (c * 1000000000 + gd za m) 2
    generalize (c * 1000000000 + gd za m) / 2 = q at *
    generalize (c * 1000000000 + gd za m) % 2 = r at *
    have e2 : r = c * pw + gd za m - 2 * q := by rw [pw_eq]; omega
    rw [e2]
    generalize pw ^ m = P at *
    grind
  · intro j hj
    rw [gd_set_ne (by omega)]
    exact h.low j (by omega)
set_option maxRecDepth 100000 in
set_option maxHeartbeats 1000000 in
theorem half_any (w : World) (b off cap : Nat) (za : List Int) (x : Int) (ha : Ns w b off cap za x) (hx : x < big) :
    Calls Tryz.prog 239 #[.slice (some ⟨b, off, none⟩) za.length cap] w (NewNt w (x / 2)) := by
  have hl := ha.len hx
  have hcap := ha.cap
  have hpos := ha.pos
  have HLT := Lib.hid ha.lt
  have H := Lib.hid ha
  clear ha hx
  obtain ⟨l, hl'⟩ : ∃ l, za.length = l := ⟨_, rfl⟩
  have HL := Lib.hid hl'
  rw [hl'] at hl hcap hpos ⊢
  clear hl'
  obtain ⟨i0, hi, hz0, hz1, hz2⟩ := info_parts infoI
  go_enter Tryz.func239, Tryz.ntmps239
  go_wp2_with (at_make; refine wpList_make_full w rfl (.tmp 7) (.tmp 7) 63 rfl w.heap.size 2 i0 (.int .i64 0) 1 Tryz.underlying63 hi hz0 hz1 .i64 .i64 _ _ l rfl rfl (by omega) (by omega) (by rw [hz2]; omega) (by unfold maxLen; omega) (Nat.le_refl _) ?_; intro w1 hown hgrow; have hblk := Lib.hid (blk_made hown); have hbel := Lib.hid (below_made hgrow); clear hown hgrow hi hz0 hz1 hz2)
  generalize hg : w.heap.size = g at hblk hbel
  have HG := Lib.hid hg
  clear hg
  go_loopw [4, 5] (fun u v wr => ∃ (m : Nat) (c : Int), m ≤ l ∧ 0 ≤ c ∧ c ≤ 1 ∧ u = .int .i64 c ∧ v = .int .i64 ((m : Int) - 1) ∧ Hid (Below g w wr ∧ ∃ L, HalfInv g za m wr c L)) (fun _ v _ => (intOf v + 1).toNat)
  case atStart => exact ⟨l, 0, Nat.le_refl _, by omega, by omega, rfl, by go_num, Lib.hid ⟨hbel.out, _, ⟨by simp [HL.out], Wd_replicate _, by omega, by omega, by rw [nv_replicate, ← HL.out, List.take_length]; simp, fun j _ => gd_zeros _ j, hblk.out⟩⟩⟩
  case round =>
    obtain ⟨m, c, him, c0, c1, rfl, rfl, hr⟩ := hrel
    rcases m with _ | m
    · obtain ⟨hbw, L, hL⟩ := hr.out
      have HH := Lib.hid hL
      have HBw := Lib.hid hbw
      clear hr hL hbw
      have hcut := trim_any g 0 l L wr (by rw [HH.out.len, HL.out]; omega) (by rw [HH.out.len, HL.out]; exact Nat.le_refl _) HH.out.blk.row
      rw [HH.out.len, HL.out] at hcut
      have HC := Lib.hid hcut
      clear hcut
      go_wp2_with fail
      refine HC.out.mono ?_
      rintro e w' ⟨rfl, m', hm1, hm2, hm3, rfl⟩
      go_wp2_with fail
      go_ret
      refine ⟨_, rfl, ?_, by rw [HG.out]; exact HBw.out⟩
      have hv := HH.out.val
      have h0 := HH.out.c0
      have h1 := HH.out.c1
      rw [Int.pow_zero, Int.mul_one, H.out.val] at hv
      simp only [List.take_zero, nv] at hv
      rw [show x / 2 = nv L by omega]
      exact nt_trim HH.out.blk.row HH.out.blk.typ HH.out.wd (by rw [HH.out.len, HL.out]; exact Nat.le_refl _) m' hm1 hm2 hm3
    · have e : (((m + 1 : Nat) : Int) - 1) = (m : Int) := by omega
      rw [e]
      clear e
      obtain ⟨hbw, L, hL⟩ := hr.out
      have cA := (hbw.cell (p := ⟨b, off + m, none⟩) (by have := HLT.out; have := HG.out; simp; omega)).trans (H.out.row m (by rw [HL.out]; omega))
      have cO := hL.blk.cell m (by rw [hL.len, HL.out]; omega)
      have fO := hL.blk.frozen m
      have HI := Lib.hid hL
      have HBw := Lib.hid hbw
      obtain ⟨a0, a1⟩ := gd_bounds H.out.wd m
      have HS : Hid (∀ w2, Blk w2 g (L.set m ((c * 1000000000 + gd za m) / 2)) → HalfInv g za m w2 ((c * 1000000000 + gd za m) % 2) (L.set m ((c * 1000000000 + gd za m) / 2))) := Lib.hid fun w2 hB => half_step (by rw [HL.out]; omega) H.out.wd HI.out hB
      clear hr hL hbw
      generalize gd za m = z at *
      have hw1 : IntKind.i64.wrap (c * 1000000000) = c * 1000000000 := IntWalk.i64_in _ (by omega)
      have hw2 : IntKind.i64.wrap (c * 1000000000 + z) = c * 1000000000 + z := IntWalk.i64_in _ (by omega)
      have hd1 : Int.tdiv (c * 1000000000 + z) 2 = (c * 1000000000 + z) / 2 := Int.tdiv_eq_ediv_of_nonneg (by omega)
      have hd2 : Int.tmod (c * 1000000000 + z) 2 = (c * 1000000000 + z) % 2 := Int.tmod_eq_emod_of_nonneg (by omega)
      have hw3 : IntKind.i64.wrap ((c * 1000000000 + z) / 2) = (c * 1000000000 + z) / 2 := IntWalk.i64_in _ (by omega)
      have hw4 : IntKind.i64.wrap ((c * 1000000000 + z) % 2) = (c * 1000000000 + z) % 2 := IntWalk.i64_in _ (by omega)
      go_wp2_with fail
      go_roundw
      case rel => exact ⟨m, _, by omega, by omega, by omega, rfl, by go_num, Lib.hid ⟨below_set HBw.out (Nat.le_refl _) _ _, _, HS.out _ (HI.out.blk.set _ _)⟩⟩
      case measure => simp [intOf] <;> omega
theorem odd_nil (w : World) (p : Option Addr) (cap : Nat) : Calls Tryz.prog 238 #[.slice p 0 cap] w fun e w' => e = .returned (.bool false) ∧ w = w' := by
  go_enter Tryz.func238, Tryz.ntmps238
  go_wp2
  go_ret
  exact ⟨rfl, rfl⟩
theorem odd_some (w : World) (b off cap : Nat) (za : List Int) (x : Int) (ha : Ns w b off cap za x) (hx : x < big) :
    Calls Tryz.prog 238 #[.slice (some ⟨b, off, none⟩) za.length cap] w fun e w' => e = .returned (.bool (decide (x % 2 = 1))) ∧ w = w' := by
  have hl := ha.len hx
  have hcap := ha.cap
  have hpos := ha.pos
  have cA := ha.row 0 hpos
  rw [Nat.add_zero] at cA
  obtain ⟨z0, z1⟩ := gd_bounds ha.wd 0
  have hv : x % 2 = gd za 0 % 2 := by
    have := ha.val
    match za, hpos with
    | z :: zs, _ =>
      simp only [nv] at this
      rw [gd_cons_zero, ← this, pw_eq]; omega
  rw [hv]
  clear ha hx hv
  generalize gd za 0 = z at *
  generalize za.length = l at *
  have hd2 : Int.tmod z 2 = z % 2 := Int.tmod_eq_emod_of_nonneg (by omega)
  have hw : IntKind.i64.wrap (z % 2) = z % 2 := IntWalk.i64_in _ (by omega)
  have hb : (z % 2 == 1) = decide (z % 2 = 1) := by
    by_cases h : z % 2 = 1
    · simp [h]
    · simp [h]
  go_enter Tryz.func238, Tryz.ntmps238
  go_wp2_with fail
  go_ret
  exact ⟨rfl, rfl⟩
theorem odd_any (w : World) (v : Value) (x : Int) (h : Nt w v x) (hx : x < big) : Calls Tryz.prog 238 #[v] w fun e w' => e = .returned (.bool (decide (x % 2 = 1))) ∧ w = w' := by
  rcases h with ⟨rfl, p, c, rfl, _⟩ | ⟨b, off, cap, za, rfl, ha⟩
  · exact odd_nil w p c
  · exact odd_some w b off cap za x ha hx
end Go.Proofs.YtaeekmlnfjimjaaGreatDoor.R
/-
  The reference's product.
-/
namespace Go.Proofs.YtaeekmlnfjimjaaGreatDoor.R
open Go.RowKit Go.Shelf

/-- product's outer loop -/
structure PrdInv (g : Nat) (za zb : List Int) (i : Nat) (w : World) (L : List Int) : Prop where
  len : L.length = za.length + zb.length
  wd : Wd L
  val : nv L = nv (za.take i) * nv zb
  high : ∀ j, i + zb.length ≤ j → gd L j = 0
  blk : Blk w g L
/-- its inner loop -/
structure PrdIn (g : Nat) (za zb : List Int) (i k : Nat) (w : World) (c : Int) (L : List Int) : Prop where
  len : L.length = za.length + zb.length
  wd : Wd L
  c0 : 0 ≤ c
  c1 : c < 1000000000
  val : nv L + c * pw ^ (i + k) = nv (za.take i) * nv zb + pw ^ i * (gd za i * nv (zb.take k))
  high : ∀ j, i + zb.length ≤ j → gd L j = 0
  blk : Blk w g L
theorem prd_start {g : Nat} {za zb : List Int} {w : World} (h : Blk w g (List.replicate (za.length + zb.length) 0)) : PrdInv g za zb 0 w (List.replicate (za.length + zb.length) 0) :=
  ⟨List.length_replicate, Wd_replicate _, by rw [nv_replicate]; simp [nv], fun j _ => gd_zeros _ j, h⟩
theorem prd_in {g : Nat} {za zb : List Int} {i : Nat} {w : World} {L : List Int} (h : PrdInv g za zb i w L) : PrdIn g za zb i 0 w 0 L :=
  ⟨h.len, h.wd, by omega, by omega, by rw [h.val]; simp [nv], h.high, h.blk⟩
theorem prd_in_step {g : Nat} {za zb : List Int} {i k : Nat} {w w2 : World} {c v : Int} {L : List Int} (hi : i < za.length) (hk : k < zb.length) (h : PrdIn g za zb i k w c L) (hv : v = c + gd L (i + k) + gd za i * gd zb k)
    (v0 : 0 ≤ v) (v1 : v < 1000000000000000000) (hB : Blk w2 g (L.set (i + k) (v % 1000000000))) : PrdIn g za zb i (k + 1) w2 (v / 1000000000) (L.set (i + k) (v % 1000000000)) := by
  refine ⟨by simp [h.len], Wd_set h.wd ⟨by omega, by show _ < (1000000000 : Int); omega⟩, by omega, by omega, ?_, ?_, hB⟩
  · rw [nv_set _ _ _ (by rw [h.len]; omega), nv_take_all]
    have hv2 := h.val
    have e := Int.mul_ediv_add_emod v 1000000000
    generalize v / 1000000000 = q at *
    generalize v % 1000000000 = r at *
    have e2 : r = v - pw * q := by rw [pw_eq]; omega
    rw [e2, show i + (k + 1) = (i + k) + 1 by omega, Int.pow_succ, hv]
    rw [Int.pow_add] at *
    generalize pw ^ i = A at *
    generalize pw ^ k = B at *
    grind
  · intro j hj
    rw [gd_set_ne (by omega)]
    exact h.high j (by omega)
theorem prd_out {g : Nat} {za zb : List Int} {i : Nat} {w w2 : World} {c : Int} {L : List Int} (hi : i < za.length) (h : PrdIn g za zb i zb.length w c L) (hB : Blk w2 g (L.set (i + zb.length) c)) : PrdInv g za zb (i + 1) w2 (L.set (i + zb.length) c) := by
  refine ⟨by simp [h.len], Wd_set h.wd ⟨h.c0, h.c1⟩, ?_, ?_, hB⟩
  · rw [nv_set _ _ _ (by rw [h.len]; omega), h.high _ (Nat.le_refl _), nv_take_all]
    have hv := h.val
    rw [List.take_length] at hv
    grind
  · intro j hj
    rw [gd_set_ne (by omega)]
    exact h.high j (by omega)
/-- what a slice of digits is, empty or not -/
structure Dg (w : World) (p : Option Addr) (cap : Nat) (zs : List Int) : Prop where
  cap : zs.length ≤ cap
  wd : Wd zs
  row : zs ≠ [] → ∃ b off, p = some ⟨b, off, none⟩ ∧ b < w.heap.size ∧ Row w b off zs
theorem Nt.dg {w : World} {v : Value} {n : Int} (h : Nt w v n) : ∃ (p : Option Addr) (cap : Nat) (zs : List Int), v = .slice p zs.length cap ∧ Dg w p cap zs ∧ nv zs = n ∧ Can zs := by
  rcases h with ⟨rfl, p, cap, rfl, _⟩ | ⟨b, off, cap, zs, rfl, h⟩
  · exact ⟨p, cap, [], rfl, ⟨Nat.zero_le _, Wd_nil, fun h => absurd rfl h⟩, rfl, fun h => absurd rfl h⟩
  · exact ⟨_, cap, zs, rfl, ⟨h.cap, h.wd, fun _ => ⟨b, off, rfl, h.lt, h.row⟩⟩, h.val, h.can⟩
set_option maxRecDepth 100000 in
set_option maxHeartbeats 2000000 in
/-- the product of two rows of digits (the second one not empty, or the first one empty) -/
theorem prd_raw (w : World) (p : Option Addr) (cap : Nat) (za : List Int) (q : Option Addr) (cap2 : Nat) (zb : List Int) (ha : Dg w p cap za) (hb : Dg w q cap2 zb) (hl : za.length ≤ 2000) (hl2 : zb.length ≤ 2000) :
    Calls Tryz.prog 132 #[.slice p za.length cap, .slice q zb.length cap2] w (NewNt w (nv za * nv zb)) := by
  have hcap := ha.cap
  have hcap2 := hb.cap
  have H := Lib.hid ha
  have H2 := Lib.hid hb
  clear ha hb
  obtain ⟨l, hl'⟩ : ∃ l, za.length = l := ⟨_, rfl⟩
  obtain ⟨k, hk'⟩ : ∃ k, zb.length = k := ⟨_, rfl⟩
  have HL := Lib.hid hl'
  have HK := Lib.hid hk'
  rw [hl'] at hl hcap ⊢
  rw [hk'] at hl2 hcap2 ⊢
  clear hl' hk'
  obtain ⟨i0, hi, hz0, hz1, hz2⟩ := info_parts infoI
  go_enter Tryz.func132, Tryz.ntmps132
  go_wp2_with (at_make; refine wpList_make_full w rfl (.tmp 13) (.tmp 13) 63 rfl w.heap.size 2 i0 (.int .i64 0) 1 Tryz.underlying63 hi hz0 hz1 .i64 .i64 _ _ (l + k) rfl rfl (by omega) (by omega) (by rw [hz2]; omega) (by unfold maxLen; omega) (Nat.le_refl _) ?_; intro w1 hown hgrow; have hblk := Lib.hid (blk_made hown); have hbel := Lib.hid (below_made hgrow); clear hown hgrow hi hz0 hz1 hz2)
  generalize hg : w.heap.size = g at hblk hbel
  have HG := Lib.hid hg
  clear hg
  go_loopw [6] (fun v wr => ∃ (i : Nat), i ≤ l ∧ v = .int .i64 i ∧ Hid (Below g w wr ∧ ∃ L, PrdInv g za zb i wr L)) (fun v _ => l - (intOf v).toNat)
  case atStart => exact ⟨0, Nat.zero_le _, rfl, Lib.hid ⟨hbel.out, _, by have := prd_start (za := za) (zb := zb) (g := g) (w := w1) (by rw [HL.out, HK.out]; exact hblk.out); exact this⟩⟩
  case round =>
    obtain ⟨i, him, rfl, hr⟩ := hrel
    by_cases hlt : i < l
    · go_wp2_with fail
      go_loopw [7, 8] (fun u v wr2 => ∃ (kk : Nat) (c : Int), kk ≤ k ∧ 0 ≤ c ∧ c < 1000000000 ∧ u = .int .i64 c ∧ v = .int .i64 kk ∧ Hid (Below g w wr2 ∧ ∃ L, PrdIn g za zb i kk wr2 c L)) (fun _ v _ => k - (intOf v).toNat)
      case atStart => exact ⟨0, 0, Nat.zero_le _, by omega, by omega, rfl, rfl, Lib.hid (by obtain ⟨hbw, L, hL⟩ := hr.out; exact ⟨hbw, L, prd_in hL⟩)⟩
      case round =>
        obtain ⟨kk, c, hkk, c0, c1, rfl, rfl, hr2⟩ := hrel
        by_cases hlt2 : kk < k
        · obtain ⟨hbw, L, hL⟩ := hr2.out
          obtain ⟨b, off, rfl, hb, hrow⟩ := H.out.row (by intro e; rw [e] at HL; have := HL.out; simp at this; omega)
          obtain ⟨b2, off2, rfl, hb2, hrow2⟩ := H2.out.row (by intro e; rw [e] at HK; have := HK.out; simp at this; omega)
          have cA := (hbw.cell (p := ⟨b, off + i, none⟩) (by have := HG.out; simp; omega)).trans (hrow i (by rw [HL.out]; omega))
          have cB := (hbw.cell (p := ⟨b2, off2 + kk, none⟩) (by have := HG.out; simp; omega)).trans (hrow2 kk (by rw [HK.out]; omega))
          have cO := hL.blk.cell (i + kk) (by rw [hL.len, HL.out, HK.out]; omega)
          have fO := hL.blk.frozen (i + kk)
          have HI := Lib.hid hL
          have HBw := Lib.hid hbw
          obtain ⟨a0, a1⟩ := gd_bounds H.out.wd i
          obtain ⟨b0, b1⟩ := gd_bounds H2.out.wd kk
          obtain ⟨o0, o1⟩ := gd_bounds hL.wd (i + kk)
          have m0 := Int.mul_nonneg a0 b0
          have m1 := Int.mul_le_mul (show gd za i ≤ 999999999 by omega) (show gd zb kk ≤ 999999999 by omega) b0 (by omega)
          have HS : Hid (∀ w2, Blk w2 g (L.set (i + kk) ((c + gd L (i + kk) + gd za i * gd zb kk) % 1000000000)) → PrdIn g za zb i (kk + 1) w2 ((c + gd L (i + kk) + gd za i * gd zb kk) / 1000000000) (L.set (i + kk) ((c + gd L (i + kk) + gd za i * gd zb kk) % 1000000000))) := Lib.hid fun w2 hB =>
            prd_in_step (by rw [HL.out]; omega) (by rw [HK.out]; omega) HI.out rfl (by omega) (by omega) hB
          clear hr hr2 hL hbw hb hb2 hrow hrow2
          generalize gd L (i + kk) = o at *
          generalize hx : gd za i = x at *
          generalize hy : gd zb kk = y at *
          clear hx hy
          have hw1 : IntKind.i64.wrap (c + o) = c + o := IntWalk.i64_in _ (by omega)
          have hw2 : IntKind.i64.wrap (x * y) = x * y := IntWalk.i64_in _ (by omega)
          have hw3 : IntKind.i64.wrap (c + o + x * y) = c + o + x * y := IntWalk.i64_in _ (by omega)
          have hd1 : Int.tdiv (c + o + x * y) 1000000000 = (c + o + x * y) / 1000000000 := Int.tdiv_eq_ediv_of_nonneg (by omega)
          have hd2 : Int.tmod (c + o + x * y) 1000000000 = (c + o + x * y) % 1000000000 := Int.tmod_eq_emod_of_nonneg (by omega)
          have hw4 : IntKind.i64.wrap ((c + o + x * y) / 1000000000) = (c + o + x * y) / 1000000000 := IntWalk.i64_in _ (by omega)
          have hw5 : IntKind.i64.wrap ((c + o + x * y) % 1000000000) = (c + o + x * y) % 1000000000 := IntWalk.i64_in _ (by omega)
          go_wp2_with fail
          go_quiet (fail)
          go_wp2_with fail
          go_roundw
          case rel => exact ⟨kk + 1, _, by omega, by omega, by omega, rfl, by go_num, Lib.hid ⟨below_set (HBw.out.trans ((Drw.step wr nq).below _)) (Nat.le_refl _) _ _, _, HS.out _ ((HI.out.blk.drw (Drw.step wr nq)).set _ _)⟩⟩
          case measure => simp [intOf] <;> omega
        · have hie : kk = k := by omega
          subst hie
          clear hlt2 hkk
          obtain ⟨hbw, L, hL⟩ := hr2.out
          have cO := hL.blk.cell (i + kk) (by rw [hL.len, HL.out, HK.out]; omega)
          have fO := hL.blk.frozen (i + kk)
          have HI := Lib.hid hL
          have HBw := Lib.hid hbw
          have HS : Hid (∀ w2, Blk w2 g (L.set (i + kk) c) → PrdInv g za zb (i + 1) w2 (L.set (i + kk) c)) := Lib.hid fun w2 hB => by
            have h := HI.out
            rw [← HK.out] at h hB ⊢
            exact prd_out (by rw [HL.out]; omega) h hB
          clear hr hr2 hL hbw
          go_wp2_with fail
          go_roundw
          case rel => exact ⟨i + 1, by omega, by go_num, Lib.hid ⟨below_set HBw.out (Nat.le_refl _) _ _, _, HS.out _ (HI.out.blk.set _ _)⟩⟩
          case measure => simp [intOf] <;> omega
    · have hie : i = l := by omega
      subst hie
      clear hlt him
      obtain ⟨hbw, L, hL⟩ := hr.out
      have HH := Lib.hid hL
      have HBw := Lib.hid hbw
      clear hr hL hbw
      have hcut := trim_any g 0 (i + k) L wr (by rw [HH.out.len, HL.out, HK.out]; omega) (by rw [HH.out.len, HL.out, HK.out]; exact Nat.le_refl _) HH.out.blk.row
      rw [HH.out.len, HL.out, HK.out] at hcut
      have HC := Lib.hid hcut
      clear hcut
      go_wp2_with fail
      refine HC.out.mono ?_
      rintro e w' ⟨rfl, m', hm1, hm2, hm3, rfl⟩
      go_wp2_with fail
      go_ret
      refine ⟨_, rfl, ?_, by rw [HG.out]; exact HBw.out⟩
      have hv := HH.out.val
      rw [show za.take i = za by rw [← HL.out, List.take_length]] at hv
      rw [← hv]
      exact nt_trim HH.out.blk.row HH.out.blk.typ HH.out.wd (by rw [HH.out.len, HL.out, HK.out]; exact Nat.le_refl _) m' hm1 hm2 hm3
theorem product_any (w : World) (va vb : Value) (x y : Int) (ha : Nt w va x) (hb : Nt w vb y) (hx : x < big) (hy : y < big) :
    Calls Tryz.prog 132 #[va, vb] w (NewNt w (x * y)) := by
  obtain ⟨p, cap, za, rfl, da, rfl, ca⟩ := ha.dg
  obtain ⟨q, cap2, zb, rfl, db, rfl, cb⟩ := hb.dg
  exact prd_raw w p cap za q cap2 zb da db (len_of_lt da.wd ca rfl hx) (len_of_lt db.wd cb rfl hy)
end Go.Proofs.YtaeekmlnfjimjaaGreatDoor.R
