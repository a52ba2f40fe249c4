/-
  Contract of package exact's Add, for dyadic numbers.
-/
import Derived.Test.YtaeekmlnfjimjaaGreatDoorP10
import Derived.Deep.RegionWith
set_option linter.unusedVariables false
set_option linter.unusedSimpArgs false
set_option linter.unusedSectionVars false
namespace Go.Proofs.YtaeekmlnfjimjaaGreatDoor
open Go.RowKit Go.Shelf
attribute [local go_sem] eqNil neqNil

theorem Dn.scale {w : World} {v : Value} {K k : Int} (h : Dn w v K k) (i : Nat) : Dn w v (K * 2 ^ i) (k - i) := by
  obtain ⟨s, t, e, h1, h2⟩ := h
  refine ⟨s, t, e, h1, ?_⟩
  rcases h2 with ⟨a, b, c, d⟩ | ⟨a, b, j, c, d⟩
  · exact .inl ⟨a, b, c, by rw [d]; simp⟩
  · refine .inr ⟨a, b, j + i, by omega, ?_⟩
    rw [d, Int.pow_add, Int.mul_assoc]

theorem Nm.nilb {w : World} {v : Value} {s : Bool} {t e : Int} (h : Nm w v s t 1 e) : ∃ bo lb cb, v = .agg #[.bool s, .slice bo lb cb, .slice none 0 0, .int .i64 e] ∧ Nt w (.slice bo lb cb) t := by
  obtain ⟨bo, lb, cb, bo2, lb2, cb2, h1, h2, h3⟩ := h.ex
  rcases h3 with ⟨_, h3⟩ | ⟨h3, _⟩
  · rw [h3] at h1; exact ⟨bo, lb, cb, h1, h2⟩
  · exact absurd rfl h3

/-- block g holds these values, not frozen -/
structure Box (w : World) (g : Nat) (A : Array Value) : Prop where
  cell : ∀ o, w.cell? ⟨g, o, none⟩ = A[o]?
  free : ∀ o, w.frozen? ⟨g, o, none⟩ = false
  lt : g < w.heap.size
theorem Box.below {w w' : World} {g : Nat} {A : Array Value} (h : Box w g A) (hb : Below w.heap.size w w') : Box w' g A :=
  ⟨fun o => (hb.cell (p := ⟨g, o, none⟩) h.lt).trans (h.cell o), fun o => (hb.frozen (p := ⟨g, o, none⟩) h.lt).trans (h.free o), Nat.lt_of_lt_of_le h.lt hb.size⟩
theorem Box.new (w : World) (A : Array Value) (T : TypeId) : Box (w.alloc (.cells A T)) w.heap.size A :=
  ⟨fun o => by simp [go_sem], fun o => by simp [go_sem], by simp⟩
theorem Box.alloc {w : World} {g : Nat} {A : Array Value} (h : Box w g A) (o : Obj) : Box (w.alloc o) g A := h.below ((Below.refl _ _).alloc (Nat.le_refl _) _)
theorem Box.noW {w : World} {g : Nat} {s : Bool} {bo : Option Addr} {lb cb : Nat} {bo2 : Option Addr} {lb2 cb2 : Nat} {e : Int} (h : Box w g #[.bool s, .slice bo lb cb, .slice bo2 lb2 cb2, .int .i64 e]) : NoW w g := by
  intro o x
  rw [h.cell]
  rcases o with _ | _ | _ | _ | o <;> simp

theorem boxes3 (w : World) (A B C : Array Value) (T : TypeId) : Box (((w.alloc (.cells A T)).alloc (.cells B T)).alloc (.cells C T)) w.heap.size A ∧ Box (((w.alloc (.cells A T)).alloc (.cells B T)).alloc (.cells C T)) (w.heap.size + 1) B ∧
    Box (((w.alloc (.cells A T)).alloc (.cells B T)).alloc (.cells C T)) (w.heap.size + 1 + 1) C ∧ Below w.heap.size w (((w.alloc (.cells A T)).alloc (.cells B T)).alloc (.cells C T)) := by
  refine ⟨((Box.new w A T).alloc _).alloc _, ?_, ?_, (((Below.refl _ _).alloc (Nat.le_refl _) _).alloc (by simp) _).alloc (by simp; omega) _⟩
  · have := (Box.new (w.alloc (.cells A T)) B T).alloc (.cells C T)
    rwa [World.size_alloc] at this
  · have := Box.new ((w.alloc (.cells A T)).alloc (.cells B T)) C T
    rwa [World.size_alloc, World.size_alloc] at this

theorem lt_of_pow {t : Int} {j : Nat} (h0 : 0 < t) (h : t * 2 ^ j < big) : t < big := by
  have := Int.mul_le_mul_of_nonneg_left (show (1 : Int) ≤ 2 ^ j from p2pos j) (Int.le_of_lt h0)
  omega

set_option maxRecDepth 100000 in
set_option maxHeartbeats 2000000 in
theorem addRaw (w : World) (hE : Env w) (sx sy : Bool) (a : Addr) (la ca : Nat) (b : Addr) (lb cb : Nat) (tx ty ex ey m : Int) (hx : Nt w (.slice (some a) la ca) tx) (hy : Nt w (.slice (some b) lb cb) ty) (h0 : 0 < tx) (h1 : 0 < ty)
    (e0 : -1000000 ≤ ex ∧ ex ≤ 1000000) (e1 : -1000000 ≤ ey ∧ ey ≤ 1000000) (hm : m = min ex ey) (hbx : tx * 2 ^ (ex - m).toNat < big) (hby : ty * 2 ^ (ey - m).toNat < big) (hbb : tx * 2 ^ (ex - m).toNat + ty * 2 ^ (ey - m).toNat < big) :
    Calls Tryz.prog 86 #[.agg #[.bool sx, .slice (some a) la ca, .slice none 0 0, .int .i64 ex], .agg #[.bool sy, .slice (some b) lb cb, .slice none 0 0, .int .i64 ey]] w
      (DnPost w (sg sx (tx * 2 ^ (ex - m).toNat) + sg sy (ty * 2 ^ (ey - m).toNat)) m) := by
  have hmx : m ≤ ex ∧ m ≤ ey := by omega
  have hmb : -1000000 ≤ m ∧ m ≤ 1000000 := by omega
  obtain ⟨hmx1, hmx2⟩ := hmx
  obtain ⟨hmb1, hmb2⟩ := hmb
  obtain ⟨e00, e01⟩ := e0
  obtain ⟨e10, e11⟩ := e1
  have x1 : IntKind.i64.wrap (ex - m) = ex - m := IntWalk.i64_in _ (by omega)
  have x2 : IntKind.i64.wrap (ey - m) = ey - m := IntWalk.i64_in _ (by omega)
  have HE := Lib.hid hE
  have HX := Lib.hid hx
  have HY := Lib.hid hy
  have HBX := Lib.hid (And.intro hbx (And.intro hby hbb))
  have HP := Lib.hid (And.intro h0 h1)
  clear hE hx hy hbx hby hbb h0 h1
  have hmn : min ex ey = m := hm.symm
  clear hm
  go_enter Tryz.func86, Tryz.ntmps86
  go_wp2_with (go_at_call 147; refine (common_left _ _ _ _).mono ?_; rintro en w' ⟨rfl, rfl⟩)
  obtain ⟨hA, hB, hC, hW0⟩ := boxes3 w #[.bool sx, .slice (some a) la ca, .slice none 0 0, .int .i64 ex] #[.bool sy, .slice (some b) lb cb, .slice none 0 0, .int .i64 ey] #[.bool false, .slice none 0 0, .slice none 0 0, .int .i64 0] 49
  generalize hW : ((w.alloc (.cells #[.bool sx, .slice (some a) la ca, .slice none 0 0, .int .i64 ex] 49)).alloc (.cells #[.bool sy, .slice (some b) lb cb, .slice none 0 0, .int .i64 ey] 49)).alloc (.cells #[.bool false, .slice none 0 0, .slice none 0 0, .int .i64 0] 49) = W at hA hB hC hW0 ⊢
  clear hW
  generalize hg : w.heap.size = g at hA hB hC
  have HG := Lib.hid hg
  clear hg
  have HW := Lib.hid hW0
  have HA := Lib.hid hA
  have HB := Lib.hid hB
  have HC := Lib.hid hC
  clear hW0
  have cA := hA.cell
  have cB := hB.cell
  clear hA hB hC
  go_quiet ((go_at_call 148; exact Calls.quiet_of_same ((without_nil _ _ _ _).mono fun _ _ h => ⟨h.1, h.2.symm⟩)))
  go_wp2_with fail
  generalize hd : W.drewN nq = W1
  have hD : Drw W W1 := hd ▸ Drw.step W _
  have HA1 := Lib.hid (HA.out.below (hD.below _))
  have HB1 := Lib.hid (HB.out.below (hD.below _))
  have HC1 := Lib.hid (HC.out.below (hD.below _))
  have HW1 := Lib.hid (HW.out.trans (hD.below _))
  clear hd hD cA cB HA HB HC HW
  have cA := HA1.out.cell
  have cB := HB1.out.cell
  go_still_tail 8, (by kernel_rfl)
  still_call ((times_left _ _ _ _).mono fun _ _ h => ⟨h.1, h.2.symm⟩)
  repeat still_step
  refine wpStill_nil ?_
  change wpList _ _ _ _ _ W1.drew
  have hD : Drw W1 W1.drew := Drw.step W1 1
  generalize W1.drew = W2 at hD ⊢
  have HA2 := Lib.hid (HA1.out.below (hD.below _))
  have HB2 := Lib.hid (HB1.out.below (hD.below _))
  have HC2 := Lib.hid (HC1.out.below (hD.below _))
  have HW2 := Lib.hid (HW1.out.trans (hD.below _))
  clear hD cA cB HA1 HB1 HC1 HW1
  go_wp2_with fail
  refine (left_any W2 _ tx (HX.out.below HW2.out) (lt_of_pow HP.out.1 HBX.out.1) (ex - m) (by omega) (by omega)).mono ?_
  rintro en W3 ⟨va, rfl, h1, hb⟩
  obtain ⟨ao, la2, ca2, rfl⟩ := h1.shape
  have HA3 := Lib.hid (HA2.out.below hb)
  have HB3 := Lib.hid (HB2.out.below hb)
  have HC3 := Lib.hid (HC2.out.below hb)
  have HW3 := Lib.hid (HW2.out.trans (hb.mono HW2.out.size))
  have HT1 := Lib.hid h1
  clear h1 hb HA2 HB2 HC2 HW2
  have cA := HA3.out.cell
  have cB := HB3.out.cell
  go_wp2_with fail
  go_still_tail 8, (by kernel_rfl)
  still_call ((times_left _ _ _ _).mono fun _ _ h => ⟨h.1, h.2.symm⟩)
  repeat still_step
  refine wpStill_nil ?_
  change wpList _ _ _ _ _ W3.drew
  have hD : Drw W3 W3.drew := Drw.step W3 1
  generalize W3.drew = W4 at hD ⊢
  have HA4 := Lib.hid (HA3.out.below (hD.below _))
  have HB4 := Lib.hid (HB3.out.below (hD.below _))
  have HC4 := Lib.hid (HC3.out.below (hD.below _))
  have HT14 := Lib.hid (HT1.out.below (hD.below _))
  have HW4 := Lib.hid (HW3.out.trans (hD.below _))
  clear hD cA cB HA3 HB3 HC3 HW3 HT1
  go_wp2_with fail
  refine (left_any W4 _ ty (HY.out.below HW4.out) (lt_of_pow HP.out.2 HBX.out.2.1) (ey - m) (by omega) (by omega)).mono ?_
  rintro en W5 ⟨vb, rfl, h1, hb⟩
  obtain ⟨bo, lb2, cb2, rfl⟩ := h1.shape
  have HA5 := Lib.hid (HA4.out.below hb)
  have HB5 := Lib.hid (HB4.out.below hb)
  have HC5 := Lib.hid (HC4.out.below hb)
  have HT15 := Lib.hid (HT14.out.below hb)
  have HW5 := Lib.hid (HW4.out.trans (hb.mono HW4.out.size))
  have HT2 := Lib.hid h1
  clear h1 hb HA4 HB4 HC4 HW4 HT14
  have cA := HA5.out.cell
  have cB := HB5.out.cell
  go_wp2_with fail
  refine (sum_any W5 sx sy _ _ _ _ HT15.out HT2.out HBX.out.1 HBX.out.2.1 (Int.mul_pos HP.out.1 (p2pos _)) (Int.mul_pos HP.out.2 (p2pos _))).mono ?_
  rintro en W6 ⟨sn, vn, n, rfl, h1, hX, hb⟩
  obtain ⟨no, ln, cn, rfl⟩ := h1.shape
  have hnn := h1.isNone
  have hn0 := h1.nonneg
  have HN : Hid (0 ≤ n ∧ n < big ∧ sg sn n = sg sx (tx * 2 ^ (ex - m).toNat) + sg sy (ty * 2 ^ (ey - m).toNat)) := Lib.hid ⟨hn0, by
    have h3 := HBX.out.2.2
    have h4 := Int.mul_pos HP.out.1 (p2pos (ex - m).toNat)
    have h5 := Int.mul_pos HP.out.2 (p2pos (ey - m).toNat)
    generalize tx * 2 ^ (ex - m).toNat = A at *
    generalize ty * 2 ^ (ey - m).toNat = B at *
    cases sn <;> cases sx <;> cases sy <;> simp [sg] at hX <;> omega, hX⟩
  have HB6 := Lib.hid (HB5.out.below hb)
  have HC6 := Lib.hid (HC5.out.below hb)
  have HW6 := Lib.hid (HW5.out.trans (hb.mono HW5.out.size))
  have HT := Lib.hid h1
  clear hX h1 hb HA5 HB5 HC5 HT15 HT2 HW5 cA cB hn0 x1 x2
  generalize hK : sg sx (tx * 2 ^ (ex - m).toNat) + sg sy (ty * 2 ^ (ey - m).toNat) = K at HN
  have HKd := Lib.hid hK
  clear hK
  have hG : w.heap.size ≤ g + 1 + 1 := by have := HG.out; omega
  by_cases hz : n = 0
  · subst hz
    have hv := HT.out.nil
    injection hv with hv1 hv2 hv3
    subst hv1 hv2 hv3
    have hK0 : Hid (K = 0) := Lib.hid (by have := HN.out.2.2; rw [sg_zero] at this; exact this.symm)
    clear hnn
    have cC := HC6.out.cell
    have fC := HC6.out.free
    have lC := HC6.out.lt
    go_wp2_with fail
    refine bodyPost_ret (v := .agg #[.bool false, .slice none 0 0, .slice none 0 0, .int .i64 0]) (by simp [results, Tryz.results86, go_sem, cC, lC]) rfl ?_
    have ho := Stored.only (g + 1 + 1) W6 false none 0 0 none 0 0 0
    refine ⟨_, rfl, ⟨false, 0, 0, ⟨_, _, _, _, _, _, rfl, Nt.zero _, .inl ⟨rfl, rfl⟩⟩, .inl ⟨rfl, rfl, rfl, HKd.out.trans hK0.out⟩⟩, ?_⟩
    exact HW6.out.trans (ho.below HW6.out.size hG)
  · have hnn' : no.isNone = false := by rw [hnn]; simpa using hz
    clear hnn
    cases no with
    | none => simp at hnn'
    | some a2 =>
      clear hnn'
      have HZ := Lib.hid hz
      clear hz
      go_wp2_with fail
      refine (odd_any W6 (HE.out.below HW6.out) _ n HT.out HN.out.2.1 HZ.out).mono ?_
      rintro en W7 ⟨v7, t7, z7, rfl, h1, h2, h3, hb⟩
      obtain ⟨bo7, lb7, cb7, rfl⟩ := h1.shape
      have hp := two_le_pow h3 (by have := HN.out.1; have := HZ.out; omega) HN.out.2.1
      have hz7 := hp.1
      have HB7 := Lib.hid (HB6.out.below hb)
      have HC7 := Lib.hid (HC6.out.below hb)
      have HW7 := Lib.hid (HW6.out.trans (hb.mono HW6.out.size))
      have HT7 := Lib.hid (And.intro h1 (And.intro h2 (And.intro h3 hp.2)))
      have hnn := h1.isNone
      have hp2 := hp.2.1
      clear h1 h2 h3 hb hp HB6 HC6 HT HW6
      cases bo7 with
      | none => have : t7 = 0 := by simpa using hnn
                omega
      | some a7 =>
        clear hnn hp2
        have cB := HB7.out.cell
        go_wp2_with (first
          | (go_at_call 147; refine (common_right _ _ _ _).mono ?_; rintro en w' ⟨rfl, rfl⟩)
          | (go_at_call 148; refine (without_nil _ _ _ _).mono ?_; rintro en w' ⟨rfl, rfl⟩)
          | (go_at_call 149; refine (times_right _ _ _ _).mono ?_; rintro en w' ⟨rfl, rfl⟩)
          | fail)
        refine (fracD W7 (HE.out.below HW7.out) sn _ t7 (m + z7) HT7.out.1 (by have h1 := HT7.out.2.2.2.2; have h2 := HN.out.2.1; omega) (by omega) (by omega)).mono ?_
        rintro en W8 ⟨v8, rfl, h8, hb⟩
        obtain ⟨s8, o8, l8, c8, o82, l82, c82, x8, rfl⟩ := h8.shape
        have HC8 := Lib.hid (HC7.out.below hb)
        have HW8 := Lib.hid (HW7.out.trans (hb.mono HW7.out.size))
        have H8 := Lib.hid h8
        clear h8 hb cB
        have cC := HC8.out.cell
        have fC := HC8.out.free
        have lC := HC8.out.lt
        go_wp2_with fail
        refine bodyPost_ret (v := .agg #[.bool s8, .slice o8 l8 c8, .slice o82 l82 c82, .int .i64 x8]) (by simp [results, Tryz.results86, go_sem, cC, lC]) rfl ?_
        have ho := Stored.only (g + 1 + 1) W8 s8 o8 l8 c8 o82 l82 c82 x8
        have hd := (H8.out.only ho HC8.out.noW).scale z7
        rw [show m + (z7 : Int) - z7 = m by omega, show sg sn t7 * 2 ^ z7 = K by
          rw [← HN.out.2.2, HT7.out.2.2.1, Int.mul_comm]
          cases sn
          · rfl
          · exact Int.mul_neg _ _, ← HKd.out] at hd
        exact ⟨_, rfl, hd, HW8.out.trans (ho.below HW8.out.size hG)⟩
end Go.Proofs.YtaeekmlnfjimjaaGreatDoor
/-
  Contract of package exact's Add, for dyadic numbers, in one.
-/
namespace Go.Proofs.YtaeekmlnfjimjaaGreatDoor
open Go.RowKit Go.Shelf
attribute [local go_sem] eqNil neqNil

theorem addZero (w : World) (sx sy : Bool) (bo : Option Addr) (lb cb : Nat) (bo2 : Option Addr) (lb2 cb2 : Nat) (bo3 : Option Addr) (lb3 cb3 : Nat) (ex ey : Int) :
    Calls Tryz.prog 86 #[.agg #[.bool sx, .slice none 0 0, .slice bo lb cb, .int .i64 ex], .agg #[.bool sy, .slice bo2 lb2 cb2, .slice bo3 lb3 cb3, .int .i64 ey]] w
      fun en w' => en = .returned (.agg #[.bool sy, .slice bo2 lb2 cb2, .slice bo3 lb3 cb3, .int .i64 ey]) ∧ Below w.heap.size w w' := by
  go_enter Tryz.func86, Tryz.ntmps86
  go_wp2_with fail
  refine bodyPost_ret (v := .agg #[.bool sy, .slice bo2 lb2 cb2, .slice bo3 lb3 cb3, .int .i64 ey]) (by simp [results, Tryz.results86, go_sem]) rfl ?_
  exact ⟨rfl, (((Below.refl _ _).alloc (Nat.le_refl _) _).alloc (by simp) _).alloc (by simp; omega) _⟩

theorem addZero2 (w : World) (sx sy : Bool) (a : Addr) (la ca : Nat) (bo : Option Addr) (lb cb : Nat) (bo3 : Option Addr) (lb3 cb3 : Nat) (ex ey : Int) :
    Calls Tryz.prog 86 #[.agg #[.bool sx, .slice (some a) la ca, .slice bo lb cb, .int .i64 ex], .agg #[.bool sy, .slice none 0 0, .slice bo3 lb3 cb3, .int .i64 ey]] w
      fun en w' => en = .returned (.agg #[.bool sx, .slice (some a) la ca, .slice bo lb cb, .int .i64 ex]) ∧ Below w.heap.size w w' := by
  go_enter Tryz.func86, Tryz.ntmps86
  go_wp2_with fail
  refine bodyPost_ret (v := .agg #[.bool sx, .slice (some a) la ca, .slice bo lb cb, .int .i64 ex]) (by simp [results, Tryz.results86, go_sem]) rfl ?_
  exact ⟨rfl, (((Below.refl _ _).alloc (Nat.le_refl _) _).alloc (by simp) _).alloc (by simp; omega) _⟩

/-- small enough for all of this -/
def sml : Int := 2 ^ 60000
theorem sml_big : 2 * sml < big := by
  unfold sml big
  rw [pw_two, show (64 * 1000) = 60000 + 4000 from rfl, Int.pow_add, Int.mul_comm]
  have h := p2pos 60000
  have h2 : (2 : Int) < 2 ^ 4000 := by decide +kernel
  exact Int.mul_lt_mul_of_pos_left h2 h

theorem abs_sg {s : Bool} {x : Int} (h : 0 ≤ x) : (-sml < sg s x ∧ sg s x < sml) ↔ x < sml := by
  cases s <;> simp [sg] <;> omega

theorem exp_lt {t : Int} {j : Nat} (h0 : 0 < t) (h : t * 2 ^ j < sml) : j < 60000 := by
  apply Classical.byContradiction
  intro hc
  have h1 := Int.mul_le_mul_of_nonneg_right (show 1 ≤ t by omega) (Int.le_of_lt (p2pos j))
  have h2 : (2 : Int) ^ 60000 * 1 ≤ 2 ^ 60000 * 2 ^ (j - 60000) := Int.mul_le_mul_of_nonneg_left (show (1 : Int) ≤ 2 ^ (j - 60000) from p2pos _) (Int.le_of_lt (p2pos _))
  rw [← Int.pow_add, show 60000 + (j - 60000) = j by omega] at h2
  unfold sml at h
  omega

theorem add_any (w : World) (hE : Env w) (vx vy : Value) (K L k : Int) (hx : Dn w vx K k) (hy : Dn w vy L k) (hK : -sml < K ∧ K < sml) (hL : -sml < L ∧ L < sml) (hk : -50000 ≤ k ∧ k ≤ 50000) :
    Calls Tryz.prog 86 #[vx, vy] w (DnPost w (K + L) k) := by
  have hx0 := hx
  have hy0 := hy
  obtain ⟨sx, tx, ex, nx, dx⟩ := hx
  obtain ⟨sy, ty, ey, ny, dy⟩ := hy
  obtain ⟨bo, lb, cb, rfl, tx1⟩ := nx.nilb
  obtain ⟨bo2, lb2, cb2, rfl, ty1⟩ := ny.nilb
  have h2 := sml_big
  rcases dx with ⟨rfl, rfl, rfl, rfl⟩ | ⟨ox, px, jx, rfl, rfl⟩
  · have h := tx1.nil
    injection h with h1 h2 h3
    subst h1 h2 h3
    refine (addZero w _ _ _ _ _ _ _ _ _ _ _ _ _).mono ?_
    rintro en w' ⟨rfl, hb⟩
    rw [Int.zero_add]
    exact ⟨_, rfl, hy0.below hb, hb⟩
  · obtain ⟨a, rfl⟩ : ∃ a, bo = some a := by
      cases bo with
      | none => have := tx1.isNone; simp at this; omega
      | some a => exact ⟨a, rfl⟩
    rcases dy with ⟨rfl, rfl, rfl, rfl⟩ | ⟨oy, py, jy, rfl, rfl⟩
    · have h := ty1.nil
      injection h with h1 h2 h3
      subst h1 h2 h3
      refine (addZero2 w _ _ _ _ _ _ _ _ _ _ _ _ _).mono ?_
      rintro en w' ⟨rfl, hb⟩
      rw [Int.add_zero]
      exact ⟨_, rfl, hx0.below hb, hb⟩
    · obtain ⟨a2, rfl⟩ : ∃ a, bo2 = some a := by
        cases bo2 with
        | none => have := ty1.isNone; simp at this; omega
        | some a => exact ⟨a, rfl⟩
      have mx : ∀ (s : Bool) (t : Int) (j : Nat), sg s t * 2 ^ j = sg s (t * 2 ^ j) := by
        intro s t j; cases s
        · rfl
        · exact Int.neg_mul _ _
      rw [mx] at hK hL
      have qx := (abs_sg (Int.le_of_lt (Int.mul_pos px (p2pos jx)))).1 hK
      have qy := (abs_sg (Int.le_of_lt (Int.mul_pos py (p2pos jy)))).1 hL
      have ix := exp_lt px qx
      have iy := exp_lt py qy
      obtain ⟨i, hi⟩ : ∃ i : Nat, i = min jx jy := ⟨_, rfl⟩
      obtain ⟨dx, hdx⟩ : ∃ d : Nat, jx = i + d := ⟨jx - i, by omega⟩
      obtain ⟨dy, hdy⟩ : ∃ d : Nat, jy = i + d := ⟨jy - i, by omega⟩
      have lex : ∀ (t : Int) (d : Nat), 0 < t → t * 2 ^ (i + d) < sml → t * 2 ^ d < sml := by
        intro t d ht h
        rw [Nat.add_comm, Int.pow_add, ← Int.mul_assoc] at h
        have := Int.mul_le_mul_of_nonneg_left (show (1 : Int) ≤ 2 ^ i from p2pos i) (Int.le_of_lt (Int.mul_pos ht (p2pos d)))
        omega
      rw [hdx] at qx
      rw [hdy] at qy
      have rx := lex tx dx px qx
      have ry := lex ty dy py qy
      have ax : (k + (jx : Int) - (k + (i : Int))).toNat = dx := by omega
      have ay : (k + (jy : Int) - (k + (i : Int))).toNat = dy := by omega
      have := addRaw w hE sx sy a lb cb a2 lb2 cb2 tx ty (k + jx) (k + jy) (k + i) tx1 ty1 px py (by omega) (by omega) (by omega) (by rw [ax]; omega) (by rw [ay]; omega) (by rw [ax, ay]; omega)
      rw [ax, ay] at this
      refine this.mono ?_
      rintro en w' ⟨v, rfl, hv, hb⟩
      have hs := hv.scale i
      rw [show k + (i : Int) - i = k by omega] at hs
      refine ⟨v, rfl, ?_, hb⟩
      rw [mx, mx, hdx, hdy]
      rw [show sg sx (tx * 2 ^ (i + dx)) + sg sy (ty * 2 ^ (i + dy)) = (sg sx (tx * 2 ^ dx) + sg sy (ty * 2 ^ dy)) * 2 ^ i by
        rw [Int.add_mul, mx, mx, Int.mul_assoc, Int.mul_assoc, ← Int.pow_add, ← Int.pow_add, Nat.add_comm i dx, Nat.add_comm i dy]]
      exact hs
end Go.Proofs.YtaeekmlnfjimjaaGreatDoor
/-
  Contract of package exact's Sub, for dyadic numbers.
-/
namespace Go.Proofs.YtaeekmlnfjimjaaGreatDoor
open Go.RowKit Go.Shelf
attribute [local go_sem] eqNil neqNil

theorem neg_dn (w : World) (v : Value) (K k : Int) (h : Dn w v K k) : Calls Tryz.prog 167 #[v] w (DnPost w (-K) k) := by
  obtain ⟨s, t, e, h1, h2⟩ := h
  refine (neg_any w v s t 1 e h1).mono fun en w' hp => hp.dn ?_
  rcases h2 with ⟨rfl, rfl, rfl, rfl⟩ | ⟨a, b, j, rfl, rfl⟩
  · exact .inl ⟨rfl, rfl, rfl, rfl⟩
  · refine .inr ⟨a, b, j, rfl, ?_⟩
    have : decide (t = 0) = false := by simp; omega
    rw [this]
    cases s <;> simp [sg, Int.neg_mul]
end Go.Proofs.YtaeekmlnfjimjaaGreatDoor
/-
  Contracts of package exact's head and cmpHeads.
-/
namespace Go.Proofs.YtaeekmlnfjimjaaGreatDoor
open Go.RowKit Go.Shelf
attribute [local go_sem] eqNil neqNil

theorem or_high (x y : Int) (d : Nat) (hd : d ≤ 63) (hx0 : 0 ≤ x) (hx : x < 2 ^ d) (hy0 : 0 ≤ y) (hy : y < 18446744073709551616) :
    bits BinOp.or IntKind.u64 (IntKind.u64.wrap (y * 2 ^ d)) x = y * 2 ^ d % 18446744073709551616 + x := by
  have h := or_low x y d hd hx0 hx hy0 hy
  obtain ⟨x, rfl⟩ := Int.eq_ofNat_of_zero_le hx0
  obtain ⟨m, hm⟩ : ∃ m : Nat, IntKind.u64.wrap (y * 2 ^ d) = m := ⟨(IntKind.u64.wrap (y * 2 ^ d)).toNat, by
    have : 0 ≤ IntKind.u64.wrap (y * 2 ^ d) := by rw [IntKind.wrap_u64]; exact Int.emod_nonneg _ (by omega)
    omega⟩
  have hm1 : m < 18446744073709551616 := by
    have : IntKind.u64.wrap (y * 2 ^ d) < 18446744073709551616 := by rw [IntKind.wrap_u64]; exact Int.emod_lt_of_pos _ (by omega)
    omega
  have e64 : (18446744073709551616 : Int) = 2 ^ (64 - d) * 2 ^ d := by rw [← Int.pow_add, show 64 - d + d = 64 by omega]; rfl
  have hx1 : x < 18446744073709551616 := by
    have : (2 : Int) ^ d ≤ 18446744073709551616 := by
      rw [e64]
      have := Int.mul_le_mul_of_nonneg_right (show (1 : Int) ≤ 2 ^ (64 - d) from p2pos _) (Int.le_of_lt (p2pos d))
      omega
    omega
  rw [hm] at h ⊢
  rw [bits_or_u64_nat _ _ hx1 hm1] at h
  rw [bits_or_u64_nat _ _ hm1 hx1, Nat.or_comm, h]
  omega

/-- word j of zs times 2^u -/
def hw (zs : List Int) (u j : Nat) : Int := gd zs j * 2 ^ u % 18446744073709551616 + (if j = 0 then 0 else gd zs (j - 1) / 2 ^ (64 - u))
theorem hw_zero (zs : List Int) (u : Nat) : hw zs u 0 = gd zs 0 * 2 ^ u % 18446744073709551616 := by simp [hw]
theorem hw_succ (zs : List Int) (u j : Nat) : hw zs u (j + 1) = gd zs (j + 1) * 2 ^ u % 18446744073709551616 + gd zs j / 2 ^ (64 - u) := by simp [hw]

theorem split_word (z : Int) (u : Nat) (hu : u ≤ 63) : z * 2 ^ u = z * 2 ^ u % 18446744073709551616 + 18446744073709551616 * (z / 2 ^ (64 - u)) := by
  have e64 : (18446744073709551616 : Int) = 2 ^ (64 - u) * 2 ^ u := by rw [← Int.pow_add, show 64 - u + u = 64 by omega]; rfl
  have h1 := Int.mul_ediv_add_emod (z * 2 ^ u) 18446744073709551616
  have h2 : z * 2 ^ u / 18446744073709551616 = z / 2 ^ (64 - u) := by
    rw [e64, Int.mul_ediv_mul_of_pos_left _ _ (p2pos u)]
  rw [h2] at h1
  omega

theorem div_lt_p2 (z : Int) (u : Nat) (hu : u ≤ 63) (h : z < 18446744073709551616) : z / 2 ^ (64 - u) < 2 ^ u := by
  have e64 : (18446744073709551616 : Int) = 2 ^ (64 - u) * 2 ^ u := by rw [← Int.pow_add, show 64 - u + u = 64 by omega]; rfl
  rw [Int.ediv_lt_iff_lt_mul (p2pos _), Int.mul_comm, ← e64]; exact h

theorem hw_word {zs : List Int} (hwd : Wd zs) (u : Nat) (hu : u ≤ 63) (j : Nat) : 0 ≤ hw zs u j ∧ hw zs u j < pw := by
  have e64 : (18446744073709551616 : Int) = 2 ^ (64 - u) * 2 ^ u := by rw [← Int.pow_add, show 64 - u + u = 64 by omega]; rfl
  have hr0 : 0 ≤ gd zs j % 2 ^ (64 - u) := Int.emod_nonneg _ (by have := p2pos (64 - u); omega)
  have hr1 : gd zs j % 2 ^ (64 - u) < 2 ^ (64 - u) := Int.emod_lt_of_pos _ (p2pos _)
  have lo : gd zs j * 2 ^ u % 18446744073709551616 = (gd zs j % 2 ^ (64 - u)) * 2 ^ u := by
    conv => lhs; rw [e64]
    rw [Int.mul_comm (gd zs j), Int.mul_comm (2 ^ (64 - u)), Int.mul_emod_mul_of_pos _ _ (p2pos u), Int.mul_comm]
  have b1 : (gd zs j % 2 ^ (64 - u)) * 2 ^ u ≤ 18446744073709551616 - 2 ^ u := by
    have := Int.mul_le_mul_of_nonneg_right (show gd zs j % 2 ^ (64 - u) ≤ 2 ^ (64 - u) - 1 by omega) (Int.le_of_lt (p2pos u))
    rw [Int.sub_mul, ← e64] at this
    omega
  have b0 : 0 ≤ (gd zs j % 2 ^ (64 - u)) * 2 ^ u := Int.mul_nonneg hr0 (Int.le_of_lt (p2pos u))
  have c : ∀ i, 0 ≤ gd zs i / 2 ^ (64 - u) ∧ gd zs i / 2 ^ (64 - u) < 2 ^ u := fun i =>
    ⟨Int.ediv_nonneg (gd_bounds hwd i).1 (Int.le_of_lt (p2pos _)), div_lt_p2 _ u hu (gd_bounds hwd i).2⟩
  unfold pw
  cases j with
  | zero => rw [hw_zero, lo]; have := p2pos u; omega
  | succ j => rw [hw_succ, lo]; have := c j; omega

theorem nv_hw_part (zs : List Int) (u : Nat) (hu : u ≤ 63) : ∀ j, nv ((List.range j).map (hw zs u)) + pw ^ j * (if j = 0 then 0 else gd zs (j - 1) / 2 ^ (64 - u)) = nv (zs.take j) * 2 ^ u := by
  intro j
  induction j with
  | zero => simp [nv]
  | succ j ih =>
    rw [List.range_succ, List.map_append, nv_append, nv_take_all]
    simp only [List.map_cons, List.map_nil, nv, List.length_map, List.length_range, Nat.add_sub_cancel, Nat.add_one_ne_zero, if_false]
    have h := split_word (gd zs j) u hu
    rw [Int.add_mul, ← ih, Int.mul_assoc (pw ^ j), h, Int.pow_succ, show pw = 18446744073709551616 from rfl]
    unfold hw
    generalize (if j = 0 then (0 : Int) else gd zs (j - 1) / 2 ^ (64 - u)) = c
    generalize gd zs j * 2 ^ u % 18446744073709551616 = r
    generalize gd zs j / 2 ^ (64 - u) = q
    grind

theorem nv_hw {zs : List Int} (u : Nat) (hu : u ≤ 63) (hp : 0 < zs.length) (ht : gd zs (zs.length - 1) / 2 ^ (64 - u) = 0) : nv ((List.range zs.length).map (hw zs u)) = nv zs * 2 ^ u := by
  have h := nv_hw_part zs u hu zs.length
  rw [if_neg (by omega), ht, List.take_length] at h
  simpa using h

/-- what head returns: word i from above of zs, shifted so that its highest bit is 1 -/
def headw (zs : List Int) (u i : Nat) : Int := if i < zs.length then hw zs u (zs.length - 1 - i) else 0

theorem head_any (w : World) (b off cap : Nat) (zs : List Int) (n : Int) (h : Ns w b off cap zs n) (hn : n < big) (i : Nat) (hi : i ≤ 1000) :
    Calls Tryz.prog 237 #[.slice (some ⟨b, off, none⟩) zs.length cap, .int .i64 i] w (DrewPost w (.int .u64 (headw zs (64 - blen (gd zs (zs.length - 1))) i))) := by
  have hl := h.len hn
  have hp := h.pos
  have hcap := h.cap
  have H := Lib.hid h
  obtain ⟨t0, t1⟩ := gd_bounds h.wd (zs.length - 1)
  have htop := h.top
  have ht := h.row (zs.length - 1) (by omega)
  obtain ⟨s1, s2, s3⟩ := blen_spec (show 0 < gd zs (zs.length - 1) by omega)
  have hbl := blen_le64 t1
  have hrow := h.row
  clear h hn s1 s2
  obtain ⟨l, hl'⟩ : ∃ l, zs.length = l := ⟨_, rfl⟩
  have HL := Lib.hid hl'
  unfold Row at hrow
  rw [hl'] at hl hp hcap ht t0 t1 hbl s3 hrow htop ⊢
  clear hl'
  obtain ⟨m, rfl⟩ : ∃ m, l = m + 1 := ⟨l - 1, by omega⟩
  simp only [Nat.add_sub_cancel] at *
  generalize hB : blen (gd zs m) = bl at *
  have HB := Lib.hid hB
  clear hB htop
  by_cases hi0 : i ≤ m
  · obtain ⟨j, rfl⟩ : ∃ j, m = i + j := ⟨m - i, by omega⟩
    cases j with
    | zero =>
      simp only [Nat.add_zero] at *
      have HV : Hid (headw zs (64 - bl) i = IntKind.u64.wrap (gd zs 0 * 2 ^ (64 - bl))) := Lib.hid (by
        unfold headw
        rw [if_pos (by rw [HL.out]; omega), HL.out, show i + 1 - 1 - i = 0 by omega, hw_zero, IntKind.wrap_u64])
      have hc0 := hrow 0 (by omega)
      rw [Nat.add_zero] at hc0
      clear hrow
      go_enter Tryz.func237, Tryz.ntmps237
      go_wp2_with (go_at_call 236; refine (lead_any _ _ t0 t1).mono ?_; rintro en w' ⟨rfl, rfl⟩; rw [HB.out])
      go_ret
      rw [HV.out]
      exact ⟨rfl, Drw.refl _⟩
    | succ j =>
      have HV : Hid (headw zs (64 - bl) i = gd zs (j + 1) * 2 ^ (64 - bl) % 18446744073709551616 + gd zs j / 2 ^ (64 - (64 - bl))) := Lib.hid (by
        unfold headw
        rw [if_pos (by rw [HL.out]; omega), HL.out, show i + (j + 1) + 1 - 1 - i = j + 1 by omega, hw_succ])
      have hc1 := hrow (j + 1) (by omega)
      have hc0 := hrow j (by omega)
      clear hrow
      obtain ⟨a0, a1⟩ := gd_bounds H.out.wd (j + 1)
      obtain ⟨b0, b1⟩ := gd_bounds H.out.wd j
      have x1 : ((i : Int) + (j + 1) + 1 - 1 - i) = j + 1 := by omega
      go_enter Tryz.func237, Tryz.ntmps237
      go_wp2_with (go_at_call 236; refine (lead_any _ _ t0 t1).mono ?_; rintro en w' ⟨rfl, rfl⟩; rw [HB.out])
      go_quiet (fail)
      go_wp2_with fail
      go_ret
      rw [HV.out]
      refine ⟨?_, Drw.step _ _⟩
      exact congrArg (fun x => Ending.returned (Value.int .u64 x)) (or_high (gd zs j / 2 ^ (64 - (64 - bl))) (gd zs (j + 1)) (64 - bl) (by omega) (Int.ediv_nonneg b0 (Int.le_of_lt (p2pos _))) (div_lt_p2 _ _ (by omega) b1) a0 a1)
  · have HV : Hid (headw zs (64 - bl) i = 0) := Lib.hid (by unfold headw; rw [if_neg (by rw [HL.out]; omega)])
    clear hrow
    go_enter Tryz.func237, Tryz.ntmps237
    go_wp2_with fail
    go_ret
    rw [HV.out]
    exact ⟨rfl, Drw.refl _⟩

/-- the words that head gives, the lowest one first, in n words -/
def padded (zs : List Int) (u n : Nat) : List Int := List.replicate (n - zs.length) 0 ++ (List.range zs.length).map (hw zs u)
theorem padded_len (zs : List Int) (u n : Nat) (h : zs.length ≤ n) : (padded zs u n).length = n := by unfold padded; simp; omega
theorem padded_gd (zs : List Int) (u n j : Nat) (h : zs.length ≤ n) (hj : j < n) : gd (padded zs u n) j = headw zs u (n - 1 - j) := by
  unfold padded headw gd
  by_cases h1 : j < n - zs.length
  · rw [if_neg (by omega)]
    simp [List.getElem?_append, h1]
  · rw [if_pos (by omega)]
    simp only [List.getD_eq_getElem?_getD]
    rw [List.getElem?_append_right (by simp; omega)]
    rw [List.getElem?_map, List.getElem?_range (by simp; omega)]
    simp only [List.length_replicate, Option.map_some, Option.getD_some]
    congr 1
    omega
theorem padded_wd {zs : List Int} (h : Wd zs) (u n : Nat) (hu : u ≤ 63) : Wd (padded zs u n) := by
  unfold padded
  refine Wd_append.2 ⟨Wd_replicate _, ?_⟩
  intro z hz
  obtain ⟨j, _, rfl⟩ := List.mem_map.1 hz
  exact hw_word h u hu j
theorem padded_nv {zs : List Int} (hwd : Wd zs) (hp : 0 < zs.length) (ht : gd zs (zs.length - 1) ≠ 0) (n : Nat) (hn : zs.length ≤ n) :
    nv (padded zs (64 - blen (gd zs (zs.length - 1))) n) = nv zs * 2 ^ (64 * n - blen (nv zs)) := by
  have hb := blen_nv hwd hp ht
  obtain ⟨t0, t1⟩ := gd_bounds hwd (zs.length - 1)
  have hb64 := blen_le64 t1
  obtain ⟨s1, s2, s3⟩ := blen_spec (show 0 < gd zs (zs.length - 1) by omega)
  unfold padded
  rw [nv_append, nv_replicate, nv_hw _ (by omega) hp (by
    rw [show 64 - (64 - blen (gd zs (zs.length - 1))) = blen (gd zs (zs.length - 1)) by omega]
    exact Int.ediv_eq_zero_of_lt t0 s2), hb, List.length_replicate, pw_two]
  generalize blen (gd zs (zs.length - 1)) = bl at *
  rw [show 64 * n - (64 * (zs.length - 1) + bl) = 64 * (n - zs.length) + (64 - bl) by omega, Int.pow_add]
  grind

def hd (zs : List Int) (i : Nat) : Int := headw zs (64 - blen (gd zs (zs.length - 1))) i
theorem head_hd (w : World) (b off cap : Nat) (zs : List Int) (n : Int) (h : Ns w b off cap zs n) (hn : n < big) (i : Nat) (hi : i ≤ 1000) :
    Calls Tryz.prog 237 #[.slice (some ⟨b, off, none⟩) zs.length cap, .int .i64 i] w (DrewPost w (.int .u64 (hd zs i))) := head_any w b off cap zs n h hn i hi

set_option maxHeartbeats 1000000 in
theorem cmpHeads_any (w : World) (b off cap : Nat) (za : List Int) (x : Int) (b2 off2 cap2 : Nat) (zb : List Int) (y : Int) (ha : Ns w b off cap za x) (hb : Ns w b2 off2 cap2 zb y) (hx : x < big) (hy : y < big) :
    Calls Tryz.prog 200 #[.slice (some ⟨b, off, none⟩) za.length cap, .slice (some ⟨b2, off2, none⟩) zb.length cap2] w
      (DrewPost w (.int .i64 (cmpI (x * 2 ^ (64 * max za.length zb.length - blen x)) (y * 2 ^ (64 * max za.length zb.length - blen y))))) := by
  have hla := ha.len hx
  have hlb := hb.len hy
  have HX := Lib.hid hx
  have HY := Lib.hid hy
  have HA := Lib.hid ha
  have HB := Lib.hid hb
  obtain ⟨n, hn⟩ : ∃ n, max za.length zb.length = n := ⟨_, rfl⟩
  have HF : ∀ i, i < n → (∀ j, j < i → hd za j = hd zb j) → hd za i ≠ hd zb i → cmpI (hd za i) (hd zb i) = cmpI (x * 2 ^ (64 * n - blen x)) (y * 2 ^ (64 * n - blen y)) := by
    intro i hi hj hne
    have pa := padded_nv ha.wd ha.pos ha.top n (by omega)
    have pb := padded_nv hb.wd hb.pos hb.top n (by omega)
    rw [ha.val] at pa
    rw [hb.val] at pb
    rw [← pa, ← pb]
    have ua : 64 - blen (gd za (za.length - 1)) ≤ 63 := by
      obtain ⟨_, _, s⟩ := blen_spec (show 0 < gd za (za.length - 1) by have := ha.top; have := (gd_bounds ha.wd (za.length - 1)).1; omega)
      omega
    have ub : 64 - blen (gd zb (zb.length - 1)) ≤ 63 := by
      obtain ⟨_, _, s⟩ := blen_spec (show 0 < gd zb (zb.length - 1) by have := hb.top; have := (gd_bounds hb.wd (zb.length - 1)).1; omega)
      omega
    have la := padded_len za (64 - blen (gd za (za.length - 1))) n (by omega)
    have lb := padded_len zb (64 - blen (gd zb (zb.length - 1))) n (by omega)
    have ga := padded_gd za (64 - blen (gd za (za.length - 1))) n
    have gb := padded_gd zb (64 - blen (gd zb (zb.length - 1))) n
    have wa := padded_wd ha.wd (64 - blen (gd za (za.length - 1))) n ua
    have wb := padded_wd hb.wd (64 - blen (gd zb (zb.length - 1))) n ub
    have hjj : ∀ j, n - 1 - i < j → gd (padded za (64 - blen (gd za (za.length - 1))) n) j = gd (padded zb (64 - blen (gd zb (zb.length - 1))) n) j := by
      intro j h
      by_cases hjn : j < n
      · rw [ga j (by omega) hjn, gb j (by omega) hjn]; exact hj _ (by omega)
      · rw [gd_over (by omega), gd_over (by omega)]
    have e : n - 1 - (n - 1 - i) = i := by omega
    rcases Int.lt_trichotomy (hd za i) (hd zb i) with h | h | h
    · rw [cmpI_lt h, cmpI_lt (nv_lt_of wa wb (by rw [la, lb]) (n - 1 - i) (by omega) hjj (by rw [ga _ (by omega) (by omega), gb _ (by omega) (by omega), e]; exact h))]
    · exact absurd h hne
    · rw [cmpI_gt h, cmpI_gt (nv_lt_of wb wa (by rw [la, lb]) (n - 1 - i) (by omega) (fun j h => (hjj j h).symm) (by rw [ga _ (by omega) (by omega), gb _ (by omega) (by omega), e]; exact h))]
  have HE : (∀ j, j < n → hd za j = hd zb j) → cmpI (x * 2 ^ (64 * n - blen x)) (y * 2 ^ (64 * n - blen y)) = 0 := by
    intro hj
    have pa := padded_nv ha.wd ha.pos ha.top n (by omega)
    have pb := padded_nv hb.wd hb.pos hb.top n (by omega)
    rw [ha.val] at pa
    rw [hb.val] at pb
    rw [← pa, ← pb]
    have la := padded_len za (64 - blen (gd za (za.length - 1))) n (by omega)
    have lb := padded_len zb (64 - blen (gd zb (zb.length - 1))) n (by omega)
    have : padded za (64 - blen (gd za (za.length - 1))) n = padded zb (64 - blen (gd zb (zb.length - 1))) n := by
      refine List.ext_getElem (by omega) ?_
      intro j h1 h2
      rw [← gd_get h1, ← gd_get h2, padded_gd _ _ _ _ (by omega) (by omega), padded_gd _ _ _ _ (by omega) (by omega)]
      exact hj _ (by omega)
    rw [this, cmpI_eq]
  have HFF := Lib.hid HF
  have HEE := Lib.hid HE
  have ha2 := fun (wx : World) (hd : Drw w wx) (i : Nat) (hi : i ≤ 1000) => head_hd wx b off cap za x (HA.out.below (hd.below _)) HX.out i hi
  have hb2 := fun (wx : World) (hd : Drw w wx) (i : Nat) (hi : i ≤ 1000) => head_hd wx b2 off2 cap2 zb y (HB.out.below (hd.below _)) HY.out i hi
  have HA2 := Lib.hid ha2
  have HB2 := Lib.hid hb2
  clear HF HE ha2 hb2
  rw [hn]
  obtain ⟨la, hla'⟩ : ∃ l, za.length = l := ⟨_, rfl⟩
  obtain ⟨lb, hlb'⟩ : ∃ l, zb.length = l := ⟨_, rfl⟩
  have HLA := Lib.hid hla'
  have HLB := Lib.hid hlb'
  rw [hla'] at hla HA2 hn ⊢
  rw [hlb'] at hlb HB2 hn ⊢
  have hn2 : max (la : Int) (lb : Int) = (n : Int) := by omega
  have hn3 : n ≤ 1000 := by omega
  generalize hR : cmpI (x * 2 ^ (64 * n - blen x)) (y * 2 ^ (64 * n - blen y)) = R at HFF HEE ⊢
  clear hla' hlb' hn hR ha hb hx hy
  go_enter Tryz.func200, Tryz.ntmps200
  go_wp2_with fail
  go_loopw [13] (fun u wr => ∃ i : Nat, i ≤ n ∧ u = .int .i64 i ∧ Drw w wr ∧ Hid (∀ j, j < i → hd za j = hd zb j)) (fun u _ => n - (intOf u).toNat)
  case atStart => exact ⟨0, Nat.zero_le _, rfl, Drw.refl _, Lib.hid fun j hj => by omega⟩
  case round =>
    obtain ⟨i, hi, rfl, hdr, hz⟩ := hrel
    have HD := Lib.hid hdr
    clear hdr
    by_cases hlt : i < n
    · by_cases h0 : hd za i = hd zb i
      · have hq : (hd za i != hd zb i) = false := by simpa using h0
        have HZ : Hid (∀ j, j < i + 1 → hd za j = hd zb j) := Lib.hid fun j hj => by
          by_cases e : j = i
          · subst e; exact h0
          · exact hz.out j (by omega)
        clear h0 hz
        have hA := HA2.out wr HD.out i (by omega)
        go_wp2_with fail
        refine hA.mono ?_
        rintro en w1 ⟨rfl, hd1⟩
        have HD1 := Lib.hid (HD.out.trans hd1)
        clear hA hd1
        have hB := HB2.out w1 HD1.out i (by omega)
        go_wp2_with fail
        refine hB.mono ?_
        rintro en w2 ⟨rfl, hd2⟩
        have HD2 := Lib.hid (HD1.out.trans hd2)
        clear hB hd2
        go_wp2_with fail
        go_roundw
        case rel => exact ⟨i + 1, by omega, by go_num, HD2.out, HZ⟩
        case measure => simp [intOf] <;> omega
      · have hq : (hd za i != hd zb i) = true := by simpa using h0
        have HR := Lib.hid (HFF.out i hlt hz.out h0)
        clear h0
        have hA := HA2.out wr HD.out i (by omega)
        go_wp2_with fail
        refine hA.mono ?_
        rintro en w1 ⟨rfl, hd1⟩
        have HD1 := Lib.hid (HD.out.trans hd1)
        clear hA hd1
        have hB := HB2.out w1 HD1.out i (by omega)
        go_wp2_with fail
        refine hB.mono ?_
        rintro en w2 ⟨rfl, hd2⟩
        have HD2 := Lib.hid (HD1.out.trans hd2)
        clear hB hd2
        go_wp2_with (go_at_call 226; refine (cmp64_any _ _ _).mono ?_; rintro en w' ⟨rfl, rfl⟩)
        go_ret
        exact ⟨congrArg (fun x => Ending.returned (Value.int .i64 x)) HR.out, HD2.out⟩
    · have hie : i = n := by omega
      subst hie
      have HR := Lib.hid (HEE.out hz.out)
      go_wp2_with fail
      go_ret
      exact ⟨congrArg (fun x => Ending.returned (Value.int .i64 x)) HR.out.symm, HD.out⟩
end Go.Proofs.YtaeekmlnfjimjaaGreatDoor
