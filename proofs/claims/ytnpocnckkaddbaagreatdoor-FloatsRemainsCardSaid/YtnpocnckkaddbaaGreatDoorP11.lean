/-
  Contracts of package exact's numbers: the ones that only look at their fields.
-/
import Derived.Test.YtnpocnckkaddbaaGreatDoorP10
import Derived.Deep.RegionWith
set_option linter.unusedVariables false
set_option linter.unusedSimpArgs false
set_option linter.unusedSectionVars false
namespace Go.Proofs.YtnpocnckkaddbaaGreatDoor
open Go.RowKit Go.Shelf
attribute [local go_sem] eqNil neqNil

/-- the fields of a number -/
structure Nm (w : World) (v : Value) (s : Bool) (t b e : Int) : Prop where
  ex : ∃ bo lb cb bo2 lb2 cb2, v = .agg #[.bool s, .slice bo lb cb, .slice bo2 lb2 cb2, .int .i64 e] ∧ Nt w (.slice bo lb cb) t ∧ Bt w (.slice bo2 lb2 cb2) b
theorem Nm.below {w w' : World} {v : Value} {s : Bool} {t b e : Int} (h : Nm w v s t b e) (hw : Below w.heap.size w w') : Nm w' v s t b e := by
  obtain ⟨bo, lb, cb, bo2, lb2, cb2, h1, h2, h3⟩ := h.ex
  exact ⟨bo, lb, cb, bo2, lb2, cb2, h1, h2.below hw, h3.below hw⟩
theorem Nt.isNone {w : World} {bo : Option Addr} {lb cb : Nat} {t : Int} (h : Nt w (.slice bo lb cb) t) : bo.isNone = decide (t = 0) := by
  rcases h with ⟨h, rfl⟩ | ⟨b, off, cap, zs, h, hN⟩
  · injection h with h1; subst h1; rfl
  · injection h with h1; subst h1
    have := hN.npos
    have : ¬ t = 0 := by omega
    simp [this]
theorem Bt.isNone {w : World} {bo : Option Addr} {lb cb : Nat} {t : Int} (h : Bt w (.slice bo lb cb) t) (h0 : t ≠ 0) : bo.isNone = decide (t = 1) := by
  rcases h with ⟨rfl, h⟩ | ⟨h1, h⟩
  · injection h with h1; subst h1; rfl
  · rw [h.isNone]; simp [h0, h1]

/-- what a number is boxed to -/
abbrev boxed (w : World) (v : Value) : World := match v with | .agg cs => w.alloc (.cells cs 47) | _ => w

def sgnI (s : Bool) (t : Int) : Int := if t = 0 then 0 else if s then -1 else 1

def SignPost (w : World) (x : Int) (e : Ending) (w' : World) : Prop := e = .returned (.int .i64 x) ∧ Below w.heap.size w w'

theorem sign_any (w : World) (v : Value) (s : Bool) (t b e : Int) (h : Nm w v s t b e) :
    Calls Tryz.prog 29 #[v] w (SignPost w (sgnI s t)) := by
  obtain ⟨bo, lb, cb, bo2, lb2, cb2, rfl, h1, h2⟩ := h.ex
  have hn := h1.isNone
  have hs : Hid (sgnI s t = if decide (t = 0) then 0 else if s then -1 else 1) := Lib.hid (by simp [sgnI])
  generalize decide (t = 0) = z at hn hs
  clear h h1 h2
  cases z
  · cases s
    all_goals
      go_enter Tryz.func29, Tryz.ntmps29
      go_wp2
      go_ret
      exact ⟨by rw [hs.out]; rfl, (Below.refl _ _).alloc (Nat.le_refl _) _⟩
  · go_enter Tryz.func29, Tryz.ntmps29
    go_wp2
    go_ret
    exact ⟨by rw [hs.out]; rfl, (Below.refl _ _).alloc (Nat.le_refl _) _⟩

def NmPost (w : World) (s : Bool) (t b e : Int) (en : Ending) (w' : World) : Prop := ∃ v, en = .returned v ∧ Nm w' v s t b e ∧ Below w.heap.size w w'

theorem abs_any (w : World) (v : Value) (s : Bool) (t b e : Int) (h : Nm w v s t b e) :
    Calls Tryz.prog 31 #[v] w (NmPost w false t b e) := by
  obtain ⟨bo, lb, cb, bo2, lb2, cb2, rfl, h1, h2⟩ := h.ex
  have H1 := Lib.hid h1
  have H2 := Lib.hid h2
  clear h h1 h2
  go_enter Tryz.func31, Tryz.ntmps31
  go_wp2
  refine bodyPost_ret (v := .agg #[.bool false, .slice bo lb cb, .slice bo2 lb2 cb2, .int .i64 e]) (by simp [results, Tryz.results31, go_sem]) rfl ?_
  have hb := ((Below.refl w.heap.size w).alloc (Nat.le_refl _) (.cells #[.bool false, .slice bo lb cb, .slice bo2 lb2 cb2, .int .i64 e] 47)).alloc (by simp) (.cells #[.bool false, .slice bo lb cb, .slice bo2 lb2 cb2, .int .i64 e] 47)
  exact ⟨_, rfl, ⟨_, _, _, _, _, _, rfl, H1.out.below hb, H2.out.below hb⟩, hb⟩

theorem neg_any (w : World) (v : Value) (s : Bool) (t b e : Int) (h : Nm w v s t b e) :
    Calls Tryz.prog 94 #[v] w (NmPost w (!s && !decide (t = 0)) t b e) := by
  obtain ⟨bo, lb, cb, bo2, lb2, cb2, rfl, h1, h2⟩ := h.ex
  have hn := h1.isNone
  generalize decide (t = 0) = z at hn ⊢
  have H1 := Lib.hid h1
  have H2 := Lib.hid h2
  clear h h1 h2
  have hb : ∀ q : Bool, Below w.heap.size w ((w.alloc (.cells #[.bool q, .slice bo lb cb, .slice bo2 lb2 cb2, .int .i64 e] 47)).alloc (.cells #[.bool q, .slice bo lb cb, .slice bo2 lb2 cb2, .int .i64 e] 47)) := fun q =>
    ((Below.refl w.heap.size w).alloc (Nat.le_refl _) (.cells #[.bool q, .slice bo lb cb, .slice bo2 lb2 cb2, .int .i64 e] 47)).alloc (by simp) (.cells #[.bool q, .slice bo lb cb, .slice bo2 lb2 cb2, .int .i64 e] 47)
  have HB := Lib.hid hb
  clear hb
  cases s <;> cases z
  all_goals
    go_enter Tryz.func94, Tryz.ntmps94
    go_wp2
  · refine bodyPost_ret (v := .agg #[.bool true, .slice bo lb cb, .slice bo2 lb2 cb2, .int .i64 e]) (by simp [results, Tryz.results94, go_sem]) rfl ?_
    exact ⟨_, rfl, ⟨_, _, _, _, _, _, rfl, H1.out.below (HB.out _), H2.out.below (HB.out _)⟩, HB.out _⟩
  all_goals
    refine bodyPost_ret (v := .agg #[.bool false, .slice bo lb cb, .slice bo2 lb2 cb2, .int .i64 e]) (by simp [results, Tryz.results94, go_sem]) rfl ?_
    exact ⟨_, rfl, ⟨_, _, _, _, _, _, rfl, H1.out.below (HB.out _), H2.out.below (HB.out _)⟩, HB.out _⟩

def BoolPost (w : World) (x : Bool) (e : Ending) (w' : World) : Prop := e = .returned (.bool x) ∧ Below w.heap.size w w'

theorem isInt_any (w : World) (v : Value) (s : Bool) (t b e : Int) (h : Nm w v s t b e) (hb : b ≠ 0) :
    Calls Tryz.prog 35 #[v] w (BoolPost w (decide (b = 1) && decide (0 ≤ e))) := by
  obtain ⟨bo, lb, cb, bo2, lb2, cb2, rfl, h1, h2⟩ := h.ex
  have hn := h2.isNone hb
  generalize decide (b = 1) = z at hn ⊢
  clear h h1 h2
  cases z
  all_goals
    go_enter Tryz.func35, Tryz.ntmps35
    go_wp2
    go_ret
    exact ⟨rfl, (Below.refl _ _).alloc (Nat.le_refl _) _⟩
end Go.Proofs.YtnpocnckkaddbaaGreatDoor
/-
  Contracts of package exact's numbers: Shift, log, Log, whole, Int, and what a missing divisor makes short.
-/
namespace Go.Proofs.YtnpocnckkaddbaaGreatDoor
open Go.RowKit Go.Shelf
attribute [local go_sem] eqNil neqNil

def NmErrPost (w : World) (s : Bool) (t b e : Int) (er : Int) (en : Ending) (w' : World) : Prop := ∃ v, en = .returned (.tuple #[v, .int .i64 er]) ∧ Nm w' v s t b e ∧ Below w.heap.size w w'

theorem shift_any (w : World) (v : Value) (s : Bool) (t b e k : Int) (h : Nm w v s t b e) (hk0 : -20000 ≤ k) (hk1 : k ≤ 20000) (he0 : -1000000 ≤ e) (he1 : e ≤ 1000000) :
    Calls Tryz.prog 236 #[v, .int .i64 k] w (NmErrPost w s t b (if t = 0 then e else e + k) 0) := by
  obtain ⟨bo, lb, cb, bo2, lb2, cb2, rfl, h1, h2⟩ := h.ex
  have hn := h1.isNone
  have hE0 : (if t = 0 then e else e + k) = if decide (t = 0) then e else e + k := by simp
  generalize (if t = 0 then e else e + k) = r at hE0 ⊢
  generalize decide (t = 0) = z at hn hE0
  have hE := Lib.hid hE0
  clear hE0
  have H1 := Lib.hid h1
  have H2 := Lib.hid h2
  clear h h1 h2
  have hb : ∀ q r : Int, Below w.heap.size w ((w.alloc (.cells #[.bool s, .slice bo lb cb, .slice bo2 lb2 cb2, .int .i64 q] 47)).alloc (.cells #[.bool s, .slice bo lb cb, .slice bo2 lb2 cb2, .int .i64 r] 47)) := fun q r =>
    ((Below.refl w.heap.size w).alloc (Nat.le_refl _) _).alloc (by simp) _
  have HB := Lib.hid hb
  clear hb
  cases z
  · go_enter Tryz.func236, Tryz.ntmps236
    go_wp2
    refine bodyPost_ret (v := .tuple #[.agg #[.bool s, .slice bo lb cb, .slice bo2 lb2 cb2, .int .i64 (e + k)], .int .i64 0]) (by simp [results, Tryz.results236, go_sem]) rfl ?_
    exact ⟨_, rfl, ⟨_, _, _, _, _, _, by rw [hE.out]; rfl, H1.out.below (HB.out _ _), H2.out.below (HB.out _ _)⟩, HB.out _ _⟩
  · go_enter Tryz.func236, Tryz.ntmps236
    go_wp2
    refine bodyPost_ret (v := .tuple #[.agg #[.bool s, .slice bo lb cb, .slice bo2 lb2 cb2, .int .i64 e], .int .i64 0]) (by simp [results, Tryz.results236, go_sem]) rfl ?_
    exact ⟨_, rfl, ⟨_, _, _, _, _, _, by rw [hE.out]; rfl, H1.out.below (HB.out _ _), H2.out.below (HB.out _ _)⟩, HB.out _ _⟩

def IntPost (w : World) (x : Int) (e : Ending) (w' : World) : Prop := e = .returned (.int .i64 x) ∧ Below w.heap.size w w'

theorem blen_big {n : Int} (h : n < big) : blen n ≤ 64000 := by
  by_cases h0 : n ≤ 0
  · unfold blen; rw [if_pos h0]; omega
  · obtain ⟨h1, _, h3⟩ := blen_spec (show 0 < n by omega)
    apply Classical.byContradiction
    intro hc
    have h4 : (2 : Int) ^ 64000 * 1 ≤ 2 ^ 64000 * 2 ^ (blen n - 1 - 64000) := Int.mul_le_mul_of_nonneg_left (show (1 : Int) ≤ 2 ^ (blen n - 1 - 64000) from p2pos _) (Int.le_of_lt (p2pos _))
    rw [← Int.pow_add, show 64000 + (blen n - 1 - 64000) = blen n - 1 by omega] at h4
    have h5 : big = 2 ^ 64000 := by unfold big; rw [pw_two]
    omega

theorem log_nil (w : World) (v : Value) (s : Bool) (t e : Int) (h : Nm w v s t 1 e) (ht : t < big) (h0 : 0 < t) (he0 : -1000000 ≤ e) (he1 : e ≤ 1000000) :
    Calls Tryz.prog 167 #[v] w (IntPost w (blen t - 1 + e)) := by
  obtain ⟨bo, lb, cb, bo2, lb2, cb2, rfl, h1, h2⟩ := h.ex
  obtain rfl : bo2 = none := by have := h2.isNone (by decide); simpa using this
  have hbl := blen_big ht
  obtain ⟨_, _, hb1⟩ := blen_spec h0
  generalize hL : blen t = L at hbl hb1 ⊢
  have HL := Lib.hid hL
  have H1 := Lib.hid h1
  have HT := Lib.hid ht
  clear h h1 h2 hL ht h0
  have HB : Hid (Below w.heap.size w (w.alloc (.cells #[.bool s, .slice bo lb cb, .slice none lb2 cb2, .int .i64 e] 47))) := Lib.hid ((Below.refl _ _).alloc (Nat.le_refl _) _)
  have hsz : ∀ wx, Below w.heap.size w wx → Calls Tryz.prog 168 #[.slice bo lb cb] wx fun en w' => en = .returned (.int .i64 L) ∧ w' = wx := fun wx hb => by
    refine (size_any wx _ t (H1.out.below hb) HT.out).mono ?_
    rintro en w' ⟨rfl, rfl⟩
    exact ⟨by rw [HL.out], rfl⟩
  have HS := Lib.hid hsz
  clear hsz
  have x1 : IntKind.i64.wrap ((L : Int) - 1) = (L : Int) - 1 := IntWalk.i64_in _ (by omega)
  have x2 : IntKind.i64.wrap ((L : Int) - 1 + e) = (L : Int) - 1 + e := IntWalk.i64_in _ (by omega)
  go_enter Tryz.func167, Tryz.ntmps167
  go_wp2_with fail
  go_quiet ((go_at_call 168; exact Calls.quiet_of_same (HS.out _ (HB.out.trans ((Drw.step _ _).below _)))))
  go_wp2_with fail
  go_ret
  exact ⟨rfl, HB.out.trans ((Drw.step _ _).below _)⟩
end Go.Proofs.YtnpocnckkaddbaaGreatDoor
/-
  Dyadic numbers: K times 2^k. Contracts of fraction, whole, increase, Int, and of times, common, without where a divisor is missing.
-/
namespace Go.Proofs.YtnpocnckkaddbaaGreatDoor
open Go.RowKit Go.Shelf
attribute [local go_sem] eqNil neqNil

def sg (s : Bool) (x : Int) : Int := if s then -x else x
theorem sg_zero (s : Bool) : sg s 0 = 0 := by cases s <;> rfl
/-- the fields of the number K 2^k -/
def Dr (s : Bool) (t e K k : Int) : Prop := (t = 0 ∧ s = false ∧ e = 0 ∧ K = 0) ∨ (t % 2 = 1 ∧ 0 < t ∧ ∃ j : Nat, e = k + j ∧ K = sg s t * 2 ^ j)
def Dn (w : World) (v : Value) (K k : Int) : Prop := ∃ s t e, Nm w v s t 1 e ∧ Dr s t e K k
theorem Dn.below {w w' : World} {v : Value} {K k : Int} (h : Dn w v K k) (hw : Below w.heap.size w w') : Dn w' v K k := by
  obtain ⟨s, t, e, h1, h2⟩ := h
  exact ⟨s, t, e, h1.below hw, h2⟩
def DnPost (w : World) (K k : Int) (en : Ending) (w' : World) : Prop := ∃ v, en = .returned v ∧ Dn w' v K k ∧ Below w.heap.size w w'
theorem NmPost.dn {w : World} {s : Bool} {t e K k : Int} (h : Dr s t e K k) {en : Ending} {w' : World} (hp : NmPost w s t 1 e en w') : DnPost w K k en w' := by
  obtain ⟨v, h1, h2, h3⟩ := hp
  exact ⟨v, h1, ⟨s, t, e, h2, h⟩, h3⟩

theorem Nt.slice_nil {w : World} {v : Value} (h : Nt w v 0) : v = .slice none 0 0 := h.nil

theorem fracD (w : World) (hE : Env w) (neg : Bool) (v : Value) (n twos : Int) (h : Nt w v n) (hs : n < big) (ht : -1000000000 < twos) (ht' : twos < 1000000000) :
    Calls Tryz.prog 92 #[.bool neg, v, .slice none 0 0, .int .i64 twos] w (DnPost w (sg neg n) twos) := by
  by_cases h0 : n = 0
  · subst h0
    rw [h.nil]
    refine (frac_zero w neg twos none 0 0).mono ?_
    rintro en w' ⟨rfl, hb⟩
    refine ⟨_, rfl, ⟨false, 0, 0, ⟨_, _, _, _, _, _, rfl, Nt.zero _, .inl ⟨rfl, rfl⟩⟩, .inl ⟨rfl, rfl, rfl, ?_⟩⟩, hb⟩
    cases neg <;> rfl
  · refine (frac_nil w hE neg v n twos h hs h0 ht ht').mono ?_
    rintro en w' ⟨v', t, z, rfl, hv, h2, hz, hb⟩
    obtain ⟨bo, lb, cb, rfl⟩ := hv.shape
    have hp := two_le_pow hz (by have := h.nonneg; omega) hs
    refine ⟨_, rfl, ⟨neg, t, twos + z, ⟨_, _, _, _, _, _, rfl, hv, .inl ⟨rfl, rfl⟩⟩, .inr ⟨h2, hp.2.1, z, rfl, ?_⟩⟩, hb⟩
    rw [hz, Int.mul_comm]
    cases neg
    · rfl
    · exact (Int.neg_mul _ _).symm

theorem Nm.only {w w' : World} {g : Nat} {v : Value} {s : Bool} {t b e : Int} (h : Nm w v s t b e) (ho : Only g w w') (hno : NoW w g) : Nm w' v s t b e := by
  obtain ⟨bo, lb, cb, bo2, lb2, cb2, h1, h2, h3⟩ := h.ex
  exact ⟨bo, lb, cb, bo2, lb2, cb2, h1, h2.only ho hno, h3.only ho hno⟩
theorem Dn.only {w w' : World} {g : Nat} {v : Value} {K k : Int} (h : Dn w v K k) (ho : Only g w w') (hno : NoW w g) : Dn w' v K k := by
  obtain ⟨s, t, e, h1, h2⟩ := h
  exact ⟨s, t, e, h1.only ho hno, h2⟩
theorem Dn.shape {w : World} {v : Value} {K k : Int} (h : Dn w v K k) : ∃ s bo lb cb bo2 lb2 cb2 e, v = .agg #[.bool s, .slice bo lb cb, .slice bo2 lb2 cb2, .int .i64 e] := by
  obtain ⟨s, t, e, h1, _⟩ := h
  obtain ⟨bo, lb, cb, bo2, lb2, cb2, h1, _⟩ := h1.ex
  exact ⟨_, _, _, _, _, _, _, _, h1⟩

/-- what a block that was laid ahead of a call holds behind it -/
theorem laid_facts {w w1 : World} {cs : Array Value} {T : TypeId} (hb : Below (w.alloc (.cells cs T)).heap.size (w.alloc (.cells cs T)) w1) :
    (∀ o, w1.cell? ⟨w.heap.size, o, none⟩ = (w.alloc (.cells cs T)).cell? ⟨w.heap.size, o, none⟩) ∧ (∀ o, w1.frozen? ⟨w.heap.size, o, none⟩ = (w.alloc (.cells cs T)).frozen? ⟨w.heap.size, o, none⟩) ∧ w.heap.size < w1.heap.size ∧ Below w.heap.size w w1 :=
  ⟨fun o => hb.cell (p := ⟨w.heap.size, o, none⟩) (by simp), fun o => hb.frozen (p := ⟨w.heap.size, o, none⟩) (by simp), by have := hb.size; simp at this; omega, ((Below.refl _ _).alloc (Nat.le_refl _) _).trans (hb.mono (by simp))⟩

/-- the cells of a number -/
def numCells (s : Bool) (bo : Option Addr) (lb cb : Nat) (bo2 : Option Addr) (lb2 cb2 : Nat) (e : Int) : Array Value := #[.bool s, .slice bo lb cb, .slice bo2 lb2 cb2, .int .i64 e]
theorem noW_num {w w1 : World} {s : Bool} {bo : Option Addr} {lb cb : Nat} {bo2 : Option Addr} {lb2 cb2 : Nat} {e : Int} {T : TypeId}
    (hc : ∀ o, w1.cell? ⟨w.heap.size, o, none⟩ = (w.alloc (.cells #[.bool s, .slice bo lb cb, .slice bo2 lb2 cb2, .int .i64 e] T)).cell? ⟨w.heap.size, o, none⟩) : NoW w1 w.heap.size := by
  intro o x
  rw [hc]
  rcases o with _ | _ | _ | _ | o <;> simp [go_sem]
/-- a number stored in block g -/
def Stored (g : Nat) (w : World) (s : Bool) (bo : Option Addr) (lb cb : Nat) (bo2 : Option Addr) (lb2 cb2 : Nat) (e : Int) : World :=
  (((w.setCell ⟨g, 0, none⟩ (.bool s)).setCell ⟨g, 1, none⟩ (.slice bo lb cb)).setCell ⟨g, 2, none⟩ (.slice bo2 lb2 cb2)).setCell ⟨g, 3, none⟩ (.int .i64 e)
theorem Stored.only (g : Nat) (w : World) (s : Bool) (bo : Option Addr) (lb cb : Nat) (bo2 : Option Addr) (lb2 cb2 : Nat) (e : Int) : Only g w (Stored g w s bo lb cb bo2 lb2 cb2 e) :=
  ((((Only.refl g w).set _ _).set _ _).set _ _).set _ _

theorem natOne (w : World) : Nt (w.alloc (.cells #[.int .u64 1] 24)) (.slice (some ⟨w.heap.size, 0, none⟩) 1 1) 1 := nt_one w 1 (by omega) (by omega)

theorem increase_any (w : World) (v : Value) (n : Int) (h : Nt w v n) (hs : n < big) (h0 : 0 < n) :
    Calls Tryz.prog 234 #[v] w (NewNt w (n + 1)) := by
  have HB : Hid (Below w.heap.size w (w.alloc (.cells #[.int .u64 1] 24))) := Lib.hid ((Below.refl _ _).alloc (Nat.le_refl _) _)
  have H := Lib.hid (h.below HB.out)
  have HS := Lib.hid hs
  have H0 := Lib.hid h0
  have HO := Lib.hid (natOne w)
  clear h hs h0
  go_enter Tryz.func234, Tryz.ntmps234
  go_wp2_with fail
  refine (natAdd_any _ v _ n 1 H.out HO.out HS.out (by decide +kernel) H0.out (by omega)).mono ?_
  rintro e w' ⟨v', rfl, h1, h2⟩
  have H1 := Lib.hid h1
  have H2 := Lib.hid h2
  clear h1 h2
  go_wp2_with fail
  go_ret
  exact ⟨_, rfl, H1.out, HB.out.trans (H2.out.mono HB.out.size)⟩

theorem times_left (w : World) (a : Addr) (lb cb : Nat) :
    Calls Tryz.prog 88 #[.slice (some a) lb cb, .slice none 0 0] w fun e w' => e = .returned (.slice (some a) lb cb) ∧ w = w' := by
  go_enter Tryz.func88, Tryz.ntmps88
  go_wp2_with fail
  go_ret
  exact ⟨rfl, rfl⟩
theorem times_right (w : World) (bo : Option Addr) (lb cb : Nat) :
    Calls Tryz.prog 88 #[.slice none 0 0, .slice bo lb cb] w fun e w' => e = .returned (.slice bo lb cb) ∧ w = w' := by
  go_enter Tryz.func88, Tryz.ntmps88
  go_wp2_with fail
  go_ret
  exact ⟨rfl, rfl⟩
theorem common_left (w : World) (bo : Option Addr) (lb cb : Nat) :
    Calls Tryz.prog 86 #[.slice none 0 0, .slice bo lb cb] w fun e w' => e = .returned (.slice none 0 0) ∧ w = w' := by
  go_enter Tryz.func86, Tryz.ntmps86
  go_wp2_with fail
  go_ret
  exact ⟨rfl, rfl⟩
theorem common_right (w : World) (a : Addr) (lb cb : Nat) :
    Calls Tryz.prog 86 #[.slice (some a) lb cb, .slice none 0 0] w fun e w' => e = .returned (.slice none 0 0) ∧ w = w' := by
  go_enter Tryz.func86, Tryz.ntmps86
  go_wp2_with fail
  go_ret
  exact ⟨rfl, rfl⟩
theorem without_nil (w : World) (bo : Option Addr) (lb cb : Nat) :
    Calls Tryz.prog 87 #[.slice bo lb cb, .slice none 0 0] w fun e w' => e = .returned (.slice bo lb cb) ∧ w = w' := by
  go_enter Tryz.func87, Tryz.ntmps87
  go_wp2_with fail
  go_ret
  exact ⟨rfl, rfl⟩

theorem whole_any (w : World) (hE : Env w) (neg : Bool) (v : Value) (n : Int) (h : Nt w v n) (hs : n < big) :
    Calls Tryz.prog 232 #[.bool neg, v] w (DnPost w (sg neg n) 0) := by
  have HE := Lib.hid hE
  have H := Lib.hid h
  have HS := Lib.hid hs
  clear h hs hE
  go_enter Tryz.func232, Tryz.ntmps232
  go_wp2_with fail
  refine (fracD _ (HE.out.below ((Below.refl _ _).alloc (Nat.le_refl _) _)) neg v n 0 (H.out.below ((Below.refl _ _).alloc (Nat.le_refl _) _)) HS.out (by omega) (by omega)).mono ?_
  rintro e w1 ⟨v', rfl, h1, hb⟩
  obtain ⟨s, bo, lb, cb, bo2, lb2, cb2, x, rfl⟩ := h1.shape
  obtain ⟨hc, hf, hz, hbw⟩ := laid_facts hb
  have HN := Lib.hid (noW_num hc)
  have H1 := Lib.hid h1
  have HB := Lib.hid hbw
  clear h1 hb hbw
  go_wp2_with fail
  refine bodyPost_ret (v := .agg #[.bool s, .slice bo lb cb, .slice bo2 lb2 cb2, .int .i64 x]) (by simp [results, Tryz.results232, go_sem, hc, hz]) rfl ?_
  have ho := Stored.only w.heap.size w1 s bo lb cb bo2 lb2 cb2 x
  exact ⟨_, rfl, H1.out.only ho HN.out, HB.out.trans (ho.below HB.out.size (Nat.le_refl _))⟩

theorem word_big {x : Int} (h : x < 18446744073709551616) : x < big := by
  have h1 : pw ^ 1 ≤ pw ^ 1000 := pow_mono (by omega)
  have h2 : pw ^ 1 = 18446744073709551616 := by decide
  unfold big
  omega

set_option maxHeartbeats 1000000 in
theorem int_any (w : World) (hE : Env w) (n : Int) (h0 : -9223372036854775808 ≤ n) (h1 : n ≤ 9223372036854775807) :
    Calls Tryz.prog 135 #[.int .i64 n] w (DnPost w n 0) := by
  have HE := Lib.hid hE
  clear hE
  obtain ⟨m1, hm1⟩ : ∃ m, IntKind.u64.wrap n = m := ⟨_, rfl⟩
  obtain ⟨m2, hm2⟩ : ∃ m, IntKind.u64.wrap (-m1) = m := ⟨_, rfl⟩
  have HH : Hid (0 ≤ m1 ∧ m1 < 18446744073709551616 ∧ 0 ≤ m2 ∧ m2 < 18446744073709551616 ∧ (0 ≤ n → m1 = n) ∧ (n < 0 → m2 = -n)) := Lib.hid (by
    rw [IntKind.wrap_u64] at hm1 hm2
    omega)
  clear h0 h1
  by_cases hn : n < 0
  · have HM : Hid (0 ≤ m2 ∧ m2 < 18446744073709551616 ∧ sg true m2 = n) := Lib.hid ⟨HH.out.2.2.1, HH.out.2.2.2.1, by have := HH.out.2.2.2.2.2 hn; unfold sg; simp; omega⟩
    go_enter Tryz.func135, Tryz.ntmps135
    go_wp2_with fail
    refine (fromWord_any _ m2 HM.out.1 HM.out.2.1).mono ?_
    rintro en w1 ⟨v1, rfl, hv, hb⟩
    obtain ⟨hc, hf, hz, hbw⟩ := laid_facts hb
    have HV := Lib.hid hv
    have HB := Lib.hid hbw
    have HBl := Lib.hid hb
    clear hv hbw hb hc hf hz
    go_wp2_with fail
    refine (fracD w1 (HE.out.below HB.out) true v1 m2 0 HV.out (word_big HM.out.2.1) (by omega) (by omega)).mono ?_
    rintro en w2 ⟨v2, rfl, h2, hb2⟩
    obtain ⟨s, bo, lb, cb, bo2, lb2, cb2, x, rfl⟩ := h2.shape
    have hbt := HBl.out.trans (hb2.mono HBl.out.size)
    obtain ⟨hc, hf, hz, hbw⟩ := laid_facts hbt
    have HN := Lib.hid (noW_num hc)
    have H2 := Lib.hid h2
    have HB2 := Lib.hid hbw
    clear h2 hb2 hbw hbt
    go_wp2_with fail
    refine bodyPost_ret (v := .agg #[.bool s, .slice bo lb cb, .slice bo2 lb2 cb2, .int .i64 x]) (by simp [results, Tryz.results135, go_sem, hc, hz]) rfl ?_
    have ho := Stored.only w.heap.size w2 s bo lb cb bo2 lb2 cb2 x
    have hd := H2.out.only ho HN.out
    rw [show sg true m2 = n from HM.out.2.2] at hd
    exact ⟨_, rfl, hd, HB2.out.trans (ho.below HB2.out.size (Nat.le_refl _))⟩
  · have HM : Hid (0 ≤ m1 ∧ m1 < 18446744073709551616 ∧ sg false m1 = n) := Lib.hid ⟨HH.out.1, HH.out.2.1, by have := HH.out.2.2.2.2.1 (by omega); unfold sg; simp; omega⟩
    go_enter Tryz.func135, Tryz.ntmps135
    go_wp2_with fail
    refine (fromWord_any _ m1 HM.out.1 HM.out.2.1).mono ?_
    rintro en w1 ⟨v1, rfl, hv, hb⟩
    obtain ⟨hc, hf, hz, hbw⟩ := laid_facts hb
    have HV := Lib.hid hv
    have HB := Lib.hid hbw
    have HBl := Lib.hid hb
    clear hv hbw hb hc hf hz
    go_wp2_with fail
    refine (fracD w1 (HE.out.below HB.out) false v1 m1 0 HV.out (word_big HM.out.2.1) (by omega) (by omega)).mono ?_
    rintro en w2 ⟨v2, rfl, h2, hb2⟩
    obtain ⟨s, bo, lb, cb, bo2, lb2, cb2, x, rfl⟩ := h2.shape
    have hbt := HBl.out.trans (hb2.mono HBl.out.size)
    obtain ⟨hc, hf, hz, hbw⟩ := laid_facts hbt
    have HN := Lib.hid (noW_num hc)
    have H2 := Lib.hid h2
    have HB2 := Lib.hid hbw
    clear h2 hb2 hbw hbt
    go_wp2_with fail
    refine bodyPost_ret (v := .agg #[.bool s, .slice bo lb cb, .slice bo2 lb2 cb2, .int .i64 x]) (by simp [results, Tryz.results135, go_sem, hc, hz]) rfl ?_
    have ho := Stored.only w.heap.size w2 s bo lb cb bo2 lb2 cb2 x
    have hd := H2.out.only ho HN.out
    rw [show sg false m1 = n from HM.out.2.2] at hd
    exact ⟨_, rfl, hd, HB2.out.trans (ho.below HB2.out.size (Nat.le_refl _))⟩
end Go.Proofs.YtnpocnckkaddbaaGreatDoor
/-
  Contract of package exact's sumOfSigned.
-/
namespace Go.Proofs.YtnpocnckkaddbaaGreatDoor
open Go.RowKit Go.Shelf
attribute [local go_sem] eqNil neqNil

def SumPost (w : World) (X : Int) (en : Ending) (w' : World) : Prop := ∃ (s : Bool) (v : Value) (m : Int), en = .returned (.tuple #[.bool s, v]) ∧ Nt w' v m ∧ sg s m = X ∧ Below w.heap.size w w'

theorem natSub_any (w : World) (va vb : Value) (x y : Int) (ha : Nt w va x) (hb : Nt w vb y) (hx : x < big) (h0 : 0 < x) (hy : y ≤ x) :
    Calls Tryz.prog 164 #[va, vb] w (NewNt w (x - y)) := by
  obtain ⟨b, off, cap, za, rfl, hA⟩ := ha.pos (by omega)
  exact sub_main w b off cap za vb x y hA hb hx hy

set_option maxHeartbeats 1000000 in
theorem sum_any (w : World) (sa sb : Bool) (va vb : Value) (x y : Int) (ha : Nt w va x) (hb : Nt w vb y) (hx : x < big) (hy : y < big) (h0 : 0 < x) (h1 : 0 < y) :
    Calls Tryz.prog 90 #[.bool sa, va, .bool sb, vb] w (SumPost w (sg sa x + sg sb y)) := by
  obtain ⟨bo, lb, cb, rfl⟩ := ha.shape
  obtain ⟨bo2, lb2, cb2, rfl⟩ := hb.shape
  have HA := Lib.hid ha
  have HB := Lib.hid hb
  have HX := Lib.hid (And.intro hx (And.intro hy (And.intro h0 h1)))
  clear ha hb hx hy h0 h1
  by_cases hs : sa = sb
  · subst hs
    have hq : (sa == sa) = true := by simp
    go_enter Tryz.func90, Tryz.ntmps90
    go_wp2_with fail
    refine (natAdd_any w _ _ x y HA.out HB.out HX.out.1 HX.out.2.1 HX.out.2.2.1 HX.out.2.2.2).mono ?_
    rintro en w1 ⟨v, rfl, h1, h2⟩
    have H1 := Lib.hid h1
    have H2 := Lib.hid h2
    clear h1 h2
    go_wp2_with fail
    go_ret2
    exact ⟨sa, v, x + y, rfl, H1.out, by cases sa <;> simp [sg] <;> omega, H2.out⟩
  · have hq : (sa == sb) = false := by simpa using hs
    by_cases hxy : y ≤ x
    · have HC : Hid (0 ≤ cmpI x y) := Lib.hid (by unfold cmpI; rw [if_neg (by omega)]; split <;> omega)
      generalize hc : cmpI x y = c at HC
      have HCE := Lib.hid hc
      have hc0 : 0 ≤ c := HC.out
      clear hc
      go_enter Tryz.func90, Tryz.ntmps90
      go_wp2_with fail
      have hcmp := natCmp_any w _ _ x y HA.out HB.out HX.out.1 HX.out.2.1
      rw [HCE.out] at hcmp
      refine hcmp.mono ?_
      rintro en w1 ⟨rfl, hd⟩
      have HD := Lib.hid hd
      clear hd hcmp
      go_wp2_with fail
      refine (natSub_any w1 _ _ x y (HA.out.below (HD.out.below _)) (HB.out.below (HD.out.below _)) HX.out.1 HX.out.2.2.1 hxy).mono ?_
      rintro en w2 ⟨v, rfl, h1, h2⟩
      have H1 := Lib.hid h1
      have H2 := Lib.hid h2
      clear h1 h2
      go_wp2_with fail
      go_ret2
      exact ⟨sa, v, x - y, rfl, H1.out, by cases sa <;> cases sb <;> simp [sg] at hs ⊢ <;> omega, (HD.out.below _).trans (H2.out.mono (HD.out.below 0).size)⟩
    · have HC : Hid (cmpI x y < 0) := Lib.hid (by rw [cmpI_lt (by omega)]; omega)
      generalize hc : cmpI x y = c at HC
      have HCE := Lib.hid hc
      have hc0 : c < 0 := HC.out
      clear hc
      go_enter Tryz.func90, Tryz.ntmps90
      go_wp2_with fail
      have hcmp := natCmp_any w _ _ x y HA.out HB.out HX.out.1 HX.out.2.1
      rw [HCE.out] at hcmp
      refine hcmp.mono ?_
      rintro en w1 ⟨rfl, hd⟩
      have HD := Lib.hid hd
      clear hd hcmp
      go_wp2_with fail
      refine (natSub_any w1 _ _ y x (HB.out.below (HD.out.below _)) (HA.out.below (HD.out.below _)) HX.out.2.1 HX.out.2.2.2 (by omega)).mono ?_
      rintro en w2 ⟨v, rfl, h1, h2⟩
      have H1 := Lib.hid h1
      have H2 := Lib.hid h2
      clear h1 h2
      go_wp2_with fail
      go_ret2
      exact ⟨sb, v, y - x, rfl, H1.out, by cases sa <;> cases sb <;> simp [sg] at hs ⊢ <;> omega, (HD.out.below _).trans (H2.out.mono (HD.out.below 0).size)⟩
end Go.Proofs.YtnpocnckkaddbaaGreatDoor
/-
  Contract of package exact's Add, for dyadic numbers.
-/
namespace Go.Proofs.YtnpocnckkaddbaaGreatDoor
open Go.RowKit Go.Shelf
attribute [local go_sem] eqNil neqNil

theorem Dn.scale {w : World} {v : Value} {K k : Int} (h : Dn w v K k) (i : Nat) : Dn w v (K * 2 ^ i) (k - i) := by
  obtain ⟨s, t, e, h1, h2⟩ := h
  refine ⟨s, t, e, h1, ?_⟩
  rcases h2 with ⟨a, b, c, d⟩ | ⟨a, b, j, c, d⟩
  · exact .inl ⟨a, b, c, by rw [d]; simp⟩
  · refine .inr ⟨a, b, j + i, by omega, ?_⟩
    rw [d, Int.pow_add, Int.mul_assoc]

theorem Nm.nilb {w : World} {v : Value} {s : Bool} {t e : Int} (h : Nm w v s t 1 e) : ∃ bo lb cb, v = .agg #[.bool s, .slice bo lb cb, .slice none 0 0, .int .i64 e] ∧ Nt w (.slice bo lb cb) t := by
  obtain ⟨bo, lb, cb, bo2, lb2, cb2, h1, h2, h3⟩ := h.ex
  rcases h3 with ⟨_, h3⟩ | ⟨h3, _⟩
  · rw [h3] at h1; exact ⟨bo, lb, cb, h1, h2⟩
  · exact absurd rfl h3

/-- block g holds these values, not frozen -/
structure Box (w : World) (g : Nat) (A : Array Value) : Prop where
  cell : ∀ o, w.cell? ⟨g, o, none⟩ = A[o]?
  free : ∀ o, w.frozen? ⟨g, o, none⟩ = false
  lt : g < w.heap.size
theorem Box.below {w w' : World} {g : Nat} {A : Array Value} (h : Box w g A) (hb : Below w.heap.size w w') : Box w' g A :=
  ⟨fun o => (hb.cell (p := ⟨g, o, none⟩) h.lt).trans (h.cell o), fun o => (hb.frozen (p := ⟨g, o, none⟩) h.lt).trans (h.free o), Nat.lt_of_lt_of_le h.lt hb.size⟩
theorem Box.new (w : World) (A : Array Value) (T : TypeId) : Box (w.alloc (.cells A T)) w.heap.size A :=
  ⟨fun o => by simp [go_sem], fun o => by simp [go_sem], by simp⟩
theorem Box.alloc {w : World} {g : Nat} {A : Array Value} (h : Box w g A) (o : Obj) : Box (w.alloc o) g A := h.below ((Below.refl _ _).alloc (Nat.le_refl _) _)
theorem Box.noW {w : World} {g : Nat} {s : Bool} {bo : Option Addr} {lb cb : Nat} {bo2 : Option Addr} {lb2 cb2 : Nat} {e : Int} (h : Box w g #[.bool s, .slice bo lb cb, .slice bo2 lb2 cb2, .int .i64 e]) : NoW w g := by
  intro o x
  rw [h.cell]
  rcases o with _ | _ | _ | _ | o <;> simp

theorem boxes3 (w : World) (A B C : Array Value) (T : TypeId) : Box (((w.alloc (.cells A T)).alloc (.cells B T)).alloc (.cells C T)) w.heap.size A ∧ Box (((w.alloc (.cells A T)).alloc (.cells B T)).alloc (.cells C T)) (w.heap.size + 1) B ∧
    Box (((w.alloc (.cells A T)).alloc (.cells B T)).alloc (.cells C T)) (w.heap.size + 1 + 1) C ∧ Below w.heap.size w (((w.alloc (.cells A T)).alloc (.cells B T)).alloc (.cells C T)) := by
  refine ⟨((Box.new w A T).alloc _).alloc _, ?_, ?_, (((Below.refl _ _).alloc (Nat.le_refl _) _).alloc (by simp) _).alloc (by simp; omega) _⟩
  · have := (Box.new (w.alloc (.cells A T)) B T).alloc (.cells C T)
    rwa [World.size_alloc] at this
  · have := Box.new ((w.alloc (.cells A T)).alloc (.cells B T)) C T
    rwa [World.size_alloc, World.size_alloc] at this

theorem lt_of_pow {t : Int} {j : Nat} (h0 : 0 < t) (h : t * 2 ^ j < big) : t < big := by
  have := Int.mul_le_mul_of_nonneg_left (show (1 : Int) ≤ 2 ^ j from p2pos j) (Int.le_of_lt h0)
  omega

set_option maxRecDepth 100000 in
set_option maxHeartbeats 2000000 in
theorem addRaw (w : World) (hE : Env w) (sx sy : Bool) (a : Addr) (la ca : Nat) (b : Addr) (lb cb : Nat) (tx ty ex ey m : Int) (hx : Nt w (.slice (some a) la ca) tx) (hy : Nt w (.slice (some b) lb cb) ty) (h0 : 0 < tx) (h1 : 0 < ty)
    (e0 : -1000000 ≤ ex ∧ ex ≤ 1000000) (e1 : -1000000 ≤ ey ∧ ey ≤ 1000000) (hm : m = min ex ey) (hbx : tx * 2 ^ (ex - m).toNat < big) (hby : ty * 2 ^ (ey - m).toNat < big) (hbb : tx * 2 ^ (ex - m).toNat + ty * 2 ^ (ey - m).toNat < big) :
    Calls Tryz.prog 30 #[.agg #[.bool sx, .slice (some a) la ca, .slice none 0 0, .int .i64 ex], .agg #[.bool sy, .slice (some b) lb cb, .slice none 0 0, .int .i64 ey]] w
      (DnPost w (sg sx (tx * 2 ^ (ex - m).toNat) + sg sy (ty * 2 ^ (ey - m).toNat)) m) := by
  have hmx : m ≤ ex ∧ m ≤ ey := by omega
  have hmb : -1000000 ≤ m ∧ m ≤ 1000000 := by omega
  obtain ⟨hmx1, hmx2⟩ := hmx
  obtain ⟨hmb1, hmb2⟩ := hmb
  obtain ⟨e00, e01⟩ := e0
  obtain ⟨e10, e11⟩ := e1
  have x1 : IntKind.i64.wrap (ex - m) = ex - m := IntWalk.i64_in _ (by omega)
  have x2 : IntKind.i64.wrap (ey - m) = ey - m := IntWalk.i64_in _ (by omega)
  have HE := Lib.hid hE
  have HX := Lib.hid hx
  have HY := Lib.hid hy
  have HBX := Lib.hid (And.intro hbx (And.intro hby hbb))
  have HP := Lib.hid (And.intro h0 h1)
  clear hE hx hy hbx hby hbb h0 h1
  have hmn : min ex ey = m := hm.symm
  clear hm
  go_enter Tryz.func30, Tryz.ntmps30
  go_wp2_with (go_at_call 86; refine (common_left _ _ _ _).mono ?_; rintro en w' ⟨rfl, rfl⟩)
  obtain ⟨hA, hB, hC, hW0⟩ := boxes3 w #[.bool sx, .slice (some a) la ca, .slice none 0 0, .int .i64 ex] #[.bool sy, .slice (some b) lb cb, .slice none 0 0, .int .i64 ey] #[.bool false, .slice none 0 0, .slice none 0 0, .int .i64 0] 47
  generalize hW : ((w.alloc (.cells #[.bool sx, .slice (some a) la ca, .slice none 0 0, .int .i64 ex] 47)).alloc (.cells #[.bool sy, .slice (some b) lb cb, .slice none 0 0, .int .i64 ey] 47)).alloc (.cells #[.bool false, .slice none 0 0, .slice none 0 0, .int .i64 0] 47) = W at hA hB hC hW0 ⊢
  clear hW
  generalize hg : w.heap.size = g at hA hB hC
  have HG := Lib.hid hg
  clear hg
  have HW := Lib.hid hW0
  have HA := Lib.hid hA
  have HB := Lib.hid hB
  have HC := Lib.hid hC
  clear hW0
  have cA := hA.cell
  have cB := hB.cell
  clear hA hB hC
  go_quiet ((go_at_call 87; exact Calls.quiet_of_same ((without_nil _ _ _ _).mono fun _ _ h => ⟨h.1, h.2.symm⟩)))
  go_wp2_with fail
  generalize hd : W.drewN nq = W1
  have hD : Drw W W1 := hd ▸ Drw.step W _
  have HA1 := Lib.hid (HA.out.below (hD.below _))
  have HB1 := Lib.hid (HB.out.below (hD.below _))
  have HC1 := Lib.hid (HC.out.below (hD.below _))
  have HW1 := Lib.hid (HW.out.trans (hD.below _))
  clear hd hD cA cB HA HB HC HW
  have cA := HA1.out.cell
  have cB := HB1.out.cell
  go_still_tail 8, (by kernel_rfl)
  still_call ((times_left _ _ _ _).mono fun _ _ h => ⟨h.1, h.2.symm⟩)
  repeat still_step
  refine wpStill_nil ?_
  change wpList _ _ _ _ _ W1.drew
  have hD : Drw W1 W1.drew := Drw.step W1 1
  generalize W1.drew = W2 at hD ⊢
  have HA2 := Lib.hid (HA1.out.below (hD.below _))
  have HB2 := Lib.hid (HB1.out.below (hD.below _))
  have HC2 := Lib.hid (HC1.out.below (hD.below _))
  have HW2 := Lib.hid (HW1.out.trans (hD.below _))
  clear hD cA cB HA1 HB1 HC1 HW1
  go_wp2_with fail
  refine (left_any W2 _ tx (HX.out.below HW2.out) (lt_of_pow HP.out.1 HBX.out.1) (ex - m) (by omega) (by omega)).mono ?_
  rintro en W3 ⟨va, rfl, h1, hb⟩
  obtain ⟨ao, la2, ca2, rfl⟩ := h1.shape
  have HA3 := Lib.hid (HA2.out.below hb)
  have HB3 := Lib.hid (HB2.out.below hb)
  have HC3 := Lib.hid (HC2.out.below hb)
  have HW3 := Lib.hid (HW2.out.trans (hb.mono HW2.out.size))
  have HT1 := Lib.hid h1
  clear h1 hb HA2 HB2 HC2 HW2
  have cA := HA3.out.cell
  have cB := HB3.out.cell
  go_wp2_with fail
  go_still_tail 8, (by kernel_rfl)
  still_call ((times_left _ _ _ _).mono fun _ _ h => ⟨h.1, h.2.symm⟩)
  repeat still_step
  refine wpStill_nil ?_
  change wpList _ _ _ _ _ W3.drew
  have hD : Drw W3 W3.drew := Drw.step W3 1
  generalize W3.drew = W4 at hD ⊢
  have HA4 := Lib.hid (HA3.out.below (hD.below _))
  have HB4 := Lib.hid (HB3.out.below (hD.below _))
  have HC4 := Lib.hid (HC3.out.below (hD.below _))
  have HT14 := Lib.hid (HT1.out.below (hD.below _))
  have HW4 := Lib.hid (HW3.out.trans (hD.below _))
  clear hD cA cB HA3 HB3 HC3 HW3 HT1
  go_wp2_with fail
  refine (left_any W4 _ ty (HY.out.below HW4.out) (lt_of_pow HP.out.2 HBX.out.2.1) (ey - m) (by omega) (by omega)).mono ?_
  rintro en W5 ⟨vb, rfl, h1, hb⟩
  obtain ⟨bo, lb2, cb2, rfl⟩ := h1.shape
  have HA5 := Lib.hid (HA4.out.below hb)
  have HB5 := Lib.hid (HB4.out.below hb)
  have HC5 := Lib.hid (HC4.out.below hb)
  have HT15 := Lib.hid (HT14.out.below hb)
  have HW5 := Lib.hid (HW4.out.trans (hb.mono HW4.out.size))
  have HT2 := Lib.hid h1
  clear h1 hb HA4 HB4 HC4 HW4 HT14
  have cA := HA5.out.cell
  have cB := HB5.out.cell
  go_wp2_with fail
  refine (sum_any W5 sx sy _ _ _ _ HT15.out HT2.out HBX.out.1 HBX.out.2.1 (Int.mul_pos HP.out.1 (p2pos _)) (Int.mul_pos HP.out.2 (p2pos _))).mono ?_
  rintro en W6 ⟨sn, vn, n, rfl, h1, hX, hb⟩
  obtain ⟨no, ln, cn, rfl⟩ := h1.shape
  have hnn := h1.isNone
  have hn0 := h1.nonneg
  have HN : Hid (0 ≤ n ∧ n < big ∧ sg sn n = sg sx (tx * 2 ^ (ex - m).toNat) + sg sy (ty * 2 ^ (ey - m).toNat)) := Lib.hid ⟨hn0, by
    have h3 := HBX.out.2.2
    have h4 := Int.mul_pos HP.out.1 (p2pos (ex - m).toNat)
    have h5 := Int.mul_pos HP.out.2 (p2pos (ey - m).toNat)
    generalize tx * 2 ^ (ex - m).toNat = A at *
    generalize ty * 2 ^ (ey - m).toNat = B at *
    cases sn <;> cases sx <;> cases sy <;> simp [sg] at hX <;> omega, hX⟩
  have HB6 := Lib.hid (HB5.out.below hb)
  have HC6 := Lib.hid (HC5.out.below hb)
  have HW6 := Lib.hid (HW5.out.trans (hb.mono HW5.out.size))
  have HT := Lib.hid h1
  clear hX h1 hb HA5 HB5 HC5 HT15 HT2 HW5 cA cB hn0 x1 x2
  generalize hK : sg sx (tx * 2 ^ (ex - m).toNat) + sg sy (ty * 2 ^ (ey - m).toNat) = K at HN
  have HKd := Lib.hid hK
  clear hK
  have hG : w.heap.size ≤ g + 1 + 1 := by have := HG.out; omega
  by_cases hz : n = 0
  · subst hz
    have hv := HT.out.nil
    injection hv with hv1 hv2 hv3
    subst hv1 hv2 hv3
    have hK0 : Hid (K = 0) := Lib.hid (by have := HN.out.2.2; rw [sg_zero] at this; exact this.symm)
    clear hnn
    have cC := HC6.out.cell
    have fC := HC6.out.free
    have lC := HC6.out.lt
    go_wp2_with fail
    refine bodyPost_ret (v := .agg #[.bool false, .slice none 0 0, .slice none 0 0, .int .i64 0]) (by simp [results, Tryz.results30, go_sem, cC, lC]) rfl ?_
    have ho := Stored.only (g + 1 + 1) W6 false none 0 0 none 0 0 0
    refine ⟨_, rfl, ⟨false, 0, 0, ⟨_, _, _, _, _, _, rfl, Nt.zero _, .inl ⟨rfl, rfl⟩⟩, .inl ⟨rfl, rfl, rfl, HKd.out.trans hK0.out⟩⟩, ?_⟩
    exact HW6.out.trans (ho.below HW6.out.size hG)
  · have hnn' : no.isNone = false := by rw [hnn]; simpa using hz
    clear hnn
    cases no with
    | none => simp at hnn'
    | some a2 =>
      clear hnn'
      have HZ := Lib.hid hz
      clear hz
      go_wp2_with fail
      refine (odd_any W6 (HE.out.below HW6.out) _ n HT.out HN.out.2.1 HZ.out).mono ?_
      rintro en W7 ⟨v7, t7, z7, rfl, h1, h2, h3, hb⟩
      obtain ⟨bo7, lb7, cb7, rfl⟩ := h1.shape
      have hp := two_le_pow h3 (by have := HN.out.1; have := HZ.out; omega) HN.out.2.1
      have hz7 := hp.1
      have HB7 := Lib.hid (HB6.out.below hb)
      have HC7 := Lib.hid (HC6.out.below hb)
      have HW7 := Lib.hid (HW6.out.trans (hb.mono HW6.out.size))
      have HT7 := Lib.hid (And.intro h1 (And.intro h2 (And.intro h3 hp.2)))
      have hnn := h1.isNone
      have hp2 := hp.2.1
      clear h1 h2 h3 hb hp HB6 HC6 HT HW6
      cases bo7 with
      | none => have : t7 = 0 := by simpa using hnn
                omega
      | some a7 =>
        clear hnn hp2
        have cB := HB7.out.cell
        go_wp2_with (first
          | (go_at_call 86; refine (common_right _ _ _ _).mono ?_; rintro en w' ⟨rfl, rfl⟩)
          | (go_at_call 87; refine (without_nil _ _ _ _).mono ?_; rintro en w' ⟨rfl, rfl⟩)
          | (go_at_call 88; refine (times_right _ _ _ _).mono ?_; rintro en w' ⟨rfl, rfl⟩)
          | fail)
        refine (fracD W7 (HE.out.below HW7.out) sn _ t7 (m + z7) HT7.out.1 (by have h1 := HT7.out.2.2.2.2; have h2 := HN.out.2.1; omega) (by omega) (by omega)).mono ?_
        rintro en W8 ⟨v8, rfl, h8, hb⟩
        obtain ⟨s8, o8, l8, c8, o82, l82, c82, x8, rfl⟩ := h8.shape
        have HC8 := Lib.hid (HC7.out.below hb)
        have HW8 := Lib.hid (HW7.out.trans (hb.mono HW7.out.size))
        have H8 := Lib.hid h8
        clear h8 hb cB
        have cC := HC8.out.cell
        have fC := HC8.out.free
        have lC := HC8.out.lt
        go_wp2_with fail
        refine bodyPost_ret (v := .agg #[.bool s8, .slice o8 l8 c8, .slice o82 l82 c82, .int .i64 x8]) (by simp [results, Tryz.results30, go_sem, cC, lC]) rfl ?_
        have ho := Stored.only (g + 1 + 1) W8 s8 o8 l8 c8 o82 l82 c82 x8
        have hd := (H8.out.only ho HC8.out.noW).scale z7
        rw [show m + (z7 : Int) - z7 = m by omega, show sg sn t7 * 2 ^ z7 = K by
          rw [← HN.out.2.2, HT7.out.2.2.1, Int.mul_comm]
          cases sn
          · rfl
          · exact Int.mul_neg _ _, ← HKd.out] at hd
        exact ⟨_, rfl, hd, HW8.out.trans (ho.below HW8.out.size hG)⟩
end Go.Proofs.YtnpocnckkaddbaaGreatDoor
/-
  Contract of package exact's Add, for dyadic numbers, in one.
-/
namespace Go.Proofs.YtnpocnckkaddbaaGreatDoor
open Go.RowKit Go.Shelf
attribute [local go_sem] eqNil neqNil

theorem addZero (w : World) (sx sy : Bool) (bo : Option Addr) (lb cb : Nat) (bo2 : Option Addr) (lb2 cb2 : Nat) (bo3 : Option Addr) (lb3 cb3 : Nat) (ex ey : Int) :
    Calls Tryz.prog 30 #[.agg #[.bool sx, .slice none 0 0, .slice bo lb cb, .int .i64 ex], .agg #[.bool sy, .slice bo2 lb2 cb2, .slice bo3 lb3 cb3, .int .i64 ey]] w
      fun en w' => en = .returned (.agg #[.bool sy, .slice bo2 lb2 cb2, .slice bo3 lb3 cb3, .int .i64 ey]) ∧ Below w.heap.size w w' := by
  go_enter Tryz.func30, Tryz.ntmps30
  go_wp2_with fail
  refine bodyPost_ret (v := .agg #[.bool sy, .slice bo2 lb2 cb2, .slice bo3 lb3 cb3, .int .i64 ey]) (by simp [results, Tryz.results30, go_sem]) rfl ?_
  exact ⟨rfl, (((Below.refl _ _).alloc (Nat.le_refl _) _).alloc (by simp) _).alloc (by simp; omega) _⟩

theorem addZero2 (w : World) (sx sy : Bool) (a : Addr) (la ca : Nat) (bo : Option Addr) (lb cb : Nat) (bo3 : Option Addr) (lb3 cb3 : Nat) (ex ey : Int) :
    Calls Tryz.prog 30 #[.agg #[.bool sx, .slice (some a) la ca, .slice bo lb cb, .int .i64 ex], .agg #[.bool sy, .slice none 0 0, .slice bo3 lb3 cb3, .int .i64 ey]] w
      fun en w' => en = .returned (.agg #[.bool sx, .slice (some a) la ca, .slice bo lb cb, .int .i64 ex]) ∧ Below w.heap.size w w' := by
  go_enter Tryz.func30, Tryz.ntmps30
  go_wp2_with fail
  refine bodyPost_ret (v := .agg #[.bool sx, .slice (some a) la ca, .slice bo lb cb, .int .i64 ex]) (by simp [results, Tryz.results30, go_sem]) rfl ?_
  exact ⟨rfl, (((Below.refl _ _).alloc (Nat.le_refl _) _).alloc (by simp) _).alloc (by simp; omega) _⟩

/-- small enough for all of this -/
def sml : Int := 2 ^ 60000
theorem sml_big : 2 * sml < big := by
  unfold sml big
  rw [pw_two, show (64 * 1000) = 60000 + 4000 from rfl, Int.pow_add, Int.mul_comm]
  have h := p2pos 60000
  have h2 : (2 : Int) < 2 ^ 4000 := by decide +kernel
  exact Int.mul_lt_mul_of_pos_left h2 h

theorem abs_sg {s : Bool} {x : Int} (h : 0 ≤ x) : (-sml < sg s x ∧ sg s x < sml) ↔ x < sml := by
  cases s <;> simp [sg] <;> omega

theorem exp_lt {t : Int} {j : Nat} (h0 : 0 < t) (h : t * 2 ^ j < sml) : j < 60000 := by
  apply Classical.byContradiction
  intro hc
  have h1 := Int.mul_le_mul_of_nonneg_right (show 1 ≤ t by omega) (Int.le_of_lt (p2pos j))
  have h2 : (2 : Int) ^ 60000 * 1 ≤ 2 ^ 60000 * 2 ^ (j - 60000) := Int.mul_le_mul_of_nonneg_left (show (1 : Int) ≤ 2 ^ (j - 60000) from p2pos _) (Int.le_of_lt (p2pos _))
  rw [← Int.pow_add, show 60000 + (j - 60000) = j by omega] at h2
  unfold sml at h
  omega

theorem add_any (w : World) (hE : Env w) (vx vy : Value) (K L k : Int) (hx : Dn w vx K k) (hy : Dn w vy L k) (hK : -sml < K ∧ K < sml) (hL : -sml < L ∧ L < sml) (hk : -50000 ≤ k ∧ k ≤ 50000) :
    Calls Tryz.prog 30 #[vx, vy] w (DnPost w (K + L) k) := by
  have hx0 := hx
  have hy0 := hy
  obtain ⟨sx, tx, ex, nx, dx⟩ := hx
  obtain ⟨sy, ty, ey, ny, dy⟩ := hy
  obtain ⟨bo, lb, cb, rfl, tx1⟩ := nx.nilb
  obtain ⟨bo2, lb2, cb2, rfl, ty1⟩ := ny.nilb
  have h2 := sml_big
  rcases dx with ⟨rfl, rfl, rfl, rfl⟩ | ⟨ox, px, jx, rfl, rfl⟩
  · have h := tx1.nil
    injection h with h1 h2 h3
    subst h1 h2 h3
    refine (addZero w _ _ _ _ _ _ _ _ _ _ _ _ _).mono ?_
    rintro en w' ⟨rfl, hb⟩
    rw [Int.zero_add]
    exact ⟨_, rfl, hy0.below hb, hb⟩
  · obtain ⟨a, rfl⟩ : ∃ a, bo = some a := by
      cases bo with
      | none => have := tx1.isNone; simp at this; omega
      | some a => exact ⟨a, rfl⟩
    rcases dy with ⟨rfl, rfl, rfl, rfl⟩ | ⟨oy, py, jy, rfl, rfl⟩
    · have h := ty1.nil
      injection h with h1 h2 h3
      subst h1 h2 h3
      refine (addZero2 w _ _ _ _ _ _ _ _ _ _ _ _ _).mono ?_
      rintro en w' ⟨rfl, hb⟩
      rw [Int.add_zero]
      exact ⟨_, rfl, hx0.below hb, hb⟩
    · obtain ⟨a2, rfl⟩ : ∃ a, bo2 = some a := by
        cases bo2 with
        | none => have := ty1.isNone; simp at this; omega
        | some a => exact ⟨a, rfl⟩
      have mx : ∀ (s : Bool) (t : Int) (j : Nat), sg s t * 2 ^ j = sg s (t * 2 ^ j) := by
        intro s t j; cases s
        · rfl
        · exact Int.neg_mul _ _
      rw [mx] at hK hL
      have qx := (abs_sg (Int.le_of_lt (Int.mul_pos px (p2pos jx)))).1 hK
      have qy := (abs_sg (Int.le_of_lt (Int.mul_pos py (p2pos jy)))).1 hL
      have ix := exp_lt px qx
      have iy := exp_lt py qy
      obtain ⟨i, hi⟩ : ∃ i : Nat, i = min jx jy := ⟨_, rfl⟩
      obtain ⟨dx, hdx⟩ : ∃ d : Nat, jx = i + d := ⟨jx - i, by omega⟩
      obtain ⟨dy, hdy⟩ : ∃ d : Nat, jy = i + d := ⟨jy - i, by omega⟩
      have lex : ∀ (t : Int) (d : Nat), 0 < t → t * 2 ^ (i + d) < sml → t * 2 ^ d < sml := by
        intro t d ht h
        rw [Nat.add_comm, Int.pow_add, ← Int.mul_assoc] at h
        have := Int.mul_le_mul_of_nonneg_left (show (1 : Int) ≤ 2 ^ i from p2pos i) (Int.le_of_lt (Int.mul_pos ht (p2pos d)))
        omega
      rw [hdx] at qx
      rw [hdy] at qy
      have rx := lex tx dx px qx
      have ry := lex ty dy py qy
      have ax : (k + (jx : Int) - (k + (i : Int))).toNat = dx := by omega
      have ay : (k + (jy : Int) - (k + (i : Int))).toNat = dy := by omega
      have := addRaw w hE sx sy a lb cb a2 lb2 cb2 tx ty (k + jx) (k + jy) (k + i) tx1 ty1 px py (by omega) (by omega) (by omega) (by rw [ax]; omega) (by rw [ay]; omega) (by rw [ax, ay]; omega)
      rw [ax, ay] at this
      refine this.mono ?_
      rintro en w' ⟨v, rfl, hv, hb⟩
      have hs := hv.scale i
      rw [show k + (i : Int) - i = k by omega] at hs
      refine ⟨v, rfl, ?_, hb⟩
      rw [mx, mx, hdx, hdy]
      rw [show sg sx (tx * 2 ^ (i + dx)) + sg sy (ty * 2 ^ (i + dy)) = (sg sx (tx * 2 ^ dx) + sg sy (ty * 2 ^ dy)) * 2 ^ i by
        rw [Int.add_mul, mx, mx, Int.mul_assoc, Int.mul_assoc, ← Int.pow_add, ← Int.pow_add, Nat.add_comm i dx, Nat.add_comm i dy]]
      exact hs
end Go.Proofs.YtnpocnckkaddbaaGreatDoor
/-
  Contract of package exact's Sub, for dyadic numbers.
-/
namespace Go.Proofs.YtnpocnckkaddbaaGreatDoor
open Go.RowKit Go.Shelf
attribute [local go_sem] eqNil neqNil

theorem neg_dn (w : World) (v : Value) (K k : Int) (h : Dn w v K k) : Calls Tryz.prog 94 #[v] w (DnPost w (-K) k) := by
  obtain ⟨s, t, e, h1, h2⟩ := h
  refine (neg_any w v s t 1 e h1).mono fun en w' hp => hp.dn ?_
  rcases h2 with ⟨rfl, rfl, rfl, rfl⟩ | ⟨a, b, j, rfl, rfl⟩
  · exact .inl ⟨rfl, rfl, rfl, rfl⟩
  · refine .inr ⟨a, b, j, rfl, ?_⟩
    have : decide (t = 0) = false := by simp; omega
    rw [this]
    cases s <;> simp [sg, Int.neg_mul]
theorem abs_dn (w : World) (v : Value) (K k : Int) (h : Dn w v K k) : Calls Tryz.prog 31 #[v] w (DnPost w K.natAbs k) := by
  obtain ⟨s, t, e, h1, h2⟩ := h
  refine (abs_any w v s t 1 e h1).mono fun en w' hp => hp.dn ?_
  rcases h2 with ⟨rfl, rfl, rfl, rfl⟩ | ⟨a, b, j, rfl, rfl⟩
  · exact .inl ⟨rfl, rfl, rfl, rfl⟩
  · refine .inr ⟨a, b, j, rfl, ?_⟩
    have h3 := Int.mul_pos b (p2pos j)
    have : sg s t * 2 ^ j = sg s (t * 2 ^ j) := by
      cases s
      · rfl
      · exact Int.neg_mul _ _
    rw [this]
    clear this h1
    show ((sg s (t * 2 ^ j)).natAbs : Int) = t * 2 ^ j
    generalize hx : t * 2 ^ j = x at h3 ⊢
    clear hx
    cases s <;> simp only [sg, if_true, if_false, Bool.false_eq_true] <;> omega

set_option maxRecDepth 100000 in
set_option maxHeartbeats 2000000 in
theorem sub_any (w : World) (hE : Env w) (vx vy : Value) (K L k : Int) (hx : Dn w vx K k) (hy : Dn w vy L k) (hK : -sml < K ∧ K < sml) (hL : -sml < L ∧ L < sml) (hk : -50000 ≤ k ∧ k ≤ 50000) :
    Calls Tryz.prog 33 #[vx, vy] w (DnPost w (K - L) k) := by
  obtain ⟨sx, ox, lx, cx, ox2, lx2, cx2, ex, rfl⟩ := hx.shape
  obtain ⟨sy, oy, ly, cy, oy2, ly2, cy2, ey, rfl⟩ := hy.shape
  have HE := Lib.hid hE
  have HX := Lib.hid hx
  have HY := Lib.hid hy
  have HP := Lib.hid (And.intro hK (And.intro hL hk))
  clear hE hx hy hK hL hk
  go_enter Tryz.func33, Tryz.ntmps33
  go_wp2_with fail
  obtain ⟨hA, hB, hC, hW0⟩ := boxes3 w #[.bool sx, .slice ox lx cx, .slice ox2 lx2 cx2, .int .i64 ex] #[.bool sy, .slice oy ly cy, .slice oy2 ly2 cy2, .int .i64 ey] #[.bool false, .slice none 0 0, .slice none 0 0, .int .i64 0] 47
  generalize hW : ((w.alloc (.cells #[.bool sx, .slice ox lx cx, .slice ox2 lx2 cx2, .int .i64 ex] 47)).alloc (.cells #[.bool sy, .slice oy ly cy, .slice oy2 ly2 cy2, .int .i64 ey] 47)).alloc (.cells #[.bool false, .slice none 0 0, .slice none 0 0, .int .i64 0] 47) = W at hA hB hC hW0 ⊢
  clear hW
  generalize hg : w.heap.size = g at hA hB hC
  have HG := Lib.hid hg
  clear hg
  have HW := Lib.hid hW0
  have HA := Lib.hid hA
  have HB := Lib.hid hB
  have HC := Lib.hid hC
  clear hW0
  have cA := hA.cell
  have cB := hB.cell
  clear hA hB hC
  have hneg : ∀ W' : World, Drw W W' → Calls Tryz.prog 94 #[.agg #[.bool sy, .slice oy ly cy, .slice oy2 ly2 cy2, .int .i64 ey]] W' fun en w1 => ∃ s o l c o2 l2 c2 e, en = .returned (.agg #[.bool s, .slice o l c, .slice o2 l2 c2, .int .i64 e]) ∧ Hid (Dn w1 (.agg #[.bool s, .slice o l c, .slice o2 l2 c2, .int .i64 e]) (-L) k ∧ Below w.heap.size w w1 ∧ Box w1 (g + 1 + 1) #[.bool false, .slice none 0 0, .slice none 0 0, .int .i64 0]) ∧ (∀ q, w1.cell? ⟨g, q, none⟩ = (#[.bool sx, .slice ox lx cx, .slice ox2 lx2 cx2, .int .i64 ex] : Array Value)[q]?) := by
    intro W' hd
    have h1 := HW.out.trans (hd.below w.heap.size)
    refine (neg_dn W' _ L k (HY.out.below h1)).mono ?_
    rintro en w1 ⟨v, rfl, hv, hb⟩
    obtain ⟨s, o, l, c, o2, l2, c2, e, rfl⟩ := hv.shape
    exact ⟨s, o, l, c, o2, l2, c2, e, rfl, Lib.hid ⟨hv, h1.trans (hb.mono h1.size), (HC.out.below (hd.below _)).below hb⟩, ((HA.out.below (hd.below _)).below hb).cell⟩
  have HNEG := Lib.hid hneg
  clear hneg
  have hadd : ∀ (w1 : World) (v : Value), Hid (Dn w1 v (-L) k ∧ Below w.heap.size w w1 ∧ Box w1 (g + 1 + 1) #[.bool false, .slice none 0 0, .slice none 0 0, .int .i64 0]) → Calls Tryz.prog 30 #[.agg #[.bool sx, .slice ox lx cx, .slice ox2 lx2 cx2, .int .i64 ex], v] w1 fun en w2 => ∃ s o l c o2 l2 c2 e, en = .returned (.agg #[.bool s, .slice o l c, .slice o2 l2 c2, .int .i64 e]) ∧ Hid (Dn w2 (.agg #[.bool s, .slice o l c, .slice o2 l2 c2, .int .i64 e]) (K - L) k ∧ Below w.heap.size w w2 ∧ Box w2 (g + 1 + 1) #[.bool false, .slice none 0 0, .slice none 0 0, .int .i64 0]) ∧ (∀ q, w2.cell? ⟨g + 1 + 1, q, none⟩ = (#[.bool false, .slice none 0 0, .slice none 0 0, .int .i64 0] : Array Value)[q]?) ∧ (∀ q, w2.frozen? ⟨g + 1 + 1, q, none⟩ = false) ∧ g + 1 + 1 < w2.heap.size := by
    intro w1 v H1
    obtain ⟨h1, h2, h3⟩ := H1.out
    obtain ⟨hK, hL, hk⟩ := HP.out
    refine (add_any w1 (HE.out.below h2) _ v K (-L) k (HX.out.below h2) h1 hK (by omega) hk).mono ?_
    rintro en w2 ⟨v2, rfl, hv, hb⟩
    obtain ⟨s, o, l, c, o2, l2, c2, e, rfl⟩ := hv.shape
    exact ⟨s, o, l, c, o2, l2, c2, e, rfl, Lib.hid ⟨hv, h2.trans (hb.mono h2.size), h3.below hb⟩, (h3.below hb).cell, (h3.below hb).free, (h3.below hb).lt⟩
  have HADD := Lib.hid hadd
  clear hadd
  go_region_with (first
    | (go_at_call 94; refine (HNEG.out _ (Drw.step W 1)).mono ?_; rintro en w1 ⟨s, o, l, c, o2, l2, c2, e, rfl, H1, cA1⟩)
    | (go_at_call 30; refine (HADD.out _ _ H1).mono ?_; rintro en w2 ⟨s', o', l', c', o2', l2', c2', e', rfl, H2, cC, fC, lC⟩))
  all_goals
    clear cC fC lC
    have cC := H2.out.2.2.cell
    have fC := H2.out.2.2.free
    have lC := H2.out.2.2.lt
    go_wp2_with fail
    refine bodyPost_ret (v := .agg #[.bool s', .slice o' l' c', .slice o2' l2' c2', .int .i64 e']) (by simp [results, Tryz.results33, go_sem, cC, lC]) rfl ?_
    have ho := Stored.only (g + 1 + 1) w2 s' o' l' c' o2' l2' c2' e'
    exact ⟨_, rfl, H2.out.1.only ho H2.out.2.2.noW, H2.out.2.1.trans (ho.below H2.out.2.1.size (by have := HG.out; omega))⟩
end Go.Proofs.YtnpocnckkaddbaaGreatDoor
